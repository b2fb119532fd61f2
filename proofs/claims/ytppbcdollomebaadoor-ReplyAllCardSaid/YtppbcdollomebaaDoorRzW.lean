/-
  The walk of the statement ReplyAll: it answers true. Conditions: the bytes lie in memory; the listed variables hold what the program's own text lays; the search's own measure holds a number.
-/
import Derived.Test.YtppbcdollomebaaDoorRzV
import Derived.Deep.RegionLaw
namespace Go.Proofs.YtppbcdollomebaaDoor
open Go.RowKit

set_option maxRecDepth 100000 in
set_option maxHeartbeats 8000000 in
theorem replyAll_walk (A : Option Addr) (b o cap : Nat) (bs : List UInt8) (w : World) (h6 : 6 ≤ w.heap.size) (hA : bs ≠ [] → A = some ⟨b, o, none⟩ ∧ b < w.heap.size) (hn : A = none → cap = 0) (hat : BytesAt w b o bs) (hcl : bs.length ≤ cap) (hcm : cap ≤ 140737488351232) (hT : Tabs8 w) (hp : Pows w) :
    Calls Tryd.prog 5 #[.slice A bs.length cap] w fun e w' => e = .returned (.bool true) ∧ Below w.heap.size w w' := by
  have hB := pows_lt' hp
  have HP := Lib.hid hp
  by_cases hbig : 70000 < bs.length
  · have hlb : (70000 : Int) < (bs.length : Int) := by omega
    have hne : bs ≠ [] := by rintro rfl; simp at hbig
    obtain ⟨rfl, hb⟩ := hA hne
    have hl7 : (bs.take 70000).length = 70000 := by rw [List.length_take]; omega
    have hc7 : 70000 ≤ cap := by omega
    have HD1 := Lib.hid (yall_any (some ⟨b, o, none⟩) b o cap (bs.take 70000) w h6 (fun _ => ⟨rfl, hb⟩) (fun h => by cases h) (hat.take 70000) (by omega) hcm (by omega) hT)
    have HD2 := Lib.hid (fun w1 (hb1 : Below w.heap.size w w1) => dall_any (some ⟨b, o, none⟩) b o cap (bs.take 70000) w1 (fun _ => ⟨rfl, Nat.lt_of_lt_of_le hb hb1.size⟩) (fun h => by cases h) ((hat.take 70000).below hb1 hb) (by omega) hcm (by omega))
    obtain ⟨L, hL⟩ : ∃ L, bs.take 70000 = L := ⟨_, rfl⟩
    unfold AllPost at HD1 HD2
    rw [hL] at HD1 HD2 hl7
    rw [hl7] at HD1 HD2
    obtain ⟨xs, h1⟩ : ∃ t, (allS L (70000 + 1) 0).1 = t := ⟨_, rfl⟩
    obtain ⟨p, h2⟩ : ∃ t, (allS L (70000 + 1) 0).2.1 = t := ⟨_, rfl⟩
    obtain ⟨f, h3⟩ : ∃ t, (allS L (70000 + 1) 0).2.2 = t := ⟨_, rfl⟩
    rw [h1, h2, h3] at HD1 HD2
    clear hA hat hT hp hl7 hL h1 h2 h3 hn
    obtain ⟨len, hlen⟩ : ∃ n, xs.length = n := ⟨_, rfl⟩
    have HLN := Lib.hid hlen
    rw [hlen] at HD1 HD2
    clear hlen
    go_enter Tryd.func5, Tryd.ntmps5
    go_wp2_with fail
    refine HD1.out.mono ?_
    rintro e w1 ⟨hb1, A1, c1, rfl, hx1⟩
    have HB1 := Lib.hid hb1
    have HX1 := Lib.hid hx1
    clear hb1 hx1
    go_wp2_with fail
    refine (HD2.out w1 HB1.out).mono ?_
    rintro e w2 ⟨hb2, A2, c2, rfl, hx2⟩
    have HB2 := Lib.hid (HB1.out.trans (hb2.mono HB1.out.size))
    have HKA := Lib.hid (HX1.out.keep (w' := w2) (Q := fun _ => True) hb2.size (fun _ _ _ => trivial) (fun g _ h => hb2.block g h)).form
    have HKB := Lib.hid (hx2.keep (w' := w2) (Q := fun _ => True) (Nat.le_refl _) (fun _ _ _ => trivial) (fun g _ h => rfl)).form
    clear hb2 hx2
    have hform : ∀ {A : Option Addr} {c : Nat}, (∃ (T : ByteArray) (A' : Option Addr) (c' : Nat), [Value.int .i64 6, .string ⟨#[]⟩, .int .i64 0, .slice A len c] = [.int .i64 (6 : Nat), .string T, .int .i64 0, .slice A' xs.length c'] ∧ T.data.toList = [] ∧ xs.length ≤ 9223372036854775807 ∧ ∀ (j : Nat) (x : RT), xs[j]? = some x → ∃ (g o : Nat) (v0 v1 v2 v3 : Value), A' = some ⟨g, o, none⟩ ∧ g < w2.heap.size ∧
      (w2.cell? ⟨g, o + j * 4, none⟩ = some v0 ∧ w2.cell? ⟨g, o + j * 4 + 1, none⟩ = some v1 ∧ w2.cell? ⟨g, o + j * 4 + 2, none⟩ = some v2 ∧ w2.cell? ⟨g, o + j * 4 + 3, none⟩ = some v3) ∧ RepAt w2 (fun _ => True) x [v0, v1, v2, v3]) →
      xs.length ≤ 9223372036854775807 ∧ ∀ (j : Nat) (x : RT), xs[j]? = some x → ∃ (g o : Nat) (v0 v1 v2 v3 : Value), A = some ⟨g, o, none⟩ ∧ g < w2.heap.size ∧
      (w2.cell? ⟨g, o + j * 4, none⟩ = some v0 ∧ w2.cell? ⟨g, o + j * 4 + 1, none⟩ = some v1 ∧ w2.cell? ⟨g, o + j * 4 + 2, none⟩ = some v2 ∧ w2.cell? ⟨g, o + j * 4 + 3, none⟩ = some v3) ∧ RepAt w2 (fun _ => True) x [v0, v1, v2, v3] := by
      rintro A c ⟨T, A', c', h1, h2, h3, h4⟩
      simp only [List.cons.injEq, Value.slice.injEq] at h1
      obtain ⟨_, _, _, ⟨rfl, _, _⟩, _⟩ := h1
      exact ⟨h3, h4⟩
    have hKA := hform HKA.out
    have hKB := hform HKB.out
    have hl63 := hKA.1
    rw [HLN.out] at hl63
    have HGA := Lib.hid hKA.2
    have HGB := Lib.hid hKB.2
    clear hform hKA hKB HKA HKB
    go_wp2
    go_loopw [9] (fun iv wr => ∃ j : Nat, iv = .int .i64 j ∧ j ≤ len ∧ Below w2.heap.size w2 wr) (fun iv _ => len - (intOf iv).toNat)
    case atStart => exact ⟨0, rfl, by omega, Below.refl _ _⟩
    case round =>
      obtain ⟨j, rfl, hj, hbr⟩ := hrel
      have HBR := Lib.hid hbr
      have hzr := hbr.size
      clear hbr
      by_cases hlt : j < len
      · obtain ⟨x, hx⟩ : ∃ x, xs[j]? = some x := ⟨_, List.getElem?_eq_getElem (by rw [HLN.out]; exact hlt)⟩
        obtain ⟨g, o1, v0, v1, v2, v3, rfl, hg, ⟨p0, p1, p2, p3⟩, hra⟩ := HGA.out j x hx
        obtain ⟨g', o2, u0, u1, u2, u3, rfl, hg', ⟨q0, q1, q2, q3⟩, hrb⟩ := HGB.out j x hx
        have hwr := HBR.out
        have p0 := (hwr.cell (p := ⟨g, o1 + j * 4, none⟩) hg).trans p0
        have p1 := (hwr.cell (p := ⟨g, o1 + j * 4 + 1, none⟩) hg).trans p1
        have p2 := (hwr.cell (p := ⟨g, o1 + j * 4 + 2, none⟩) hg).trans p2
        have p3 := (hwr.cell (p := ⟨g, o1 + j * 4 + 3, none⟩) hg).trans p3
        have q0 := (hwr.cell (p := ⟨g', o2 + j * 4, none⟩) hg').trans q0
        have q1 := (hwr.cell (p := ⟨g', o2 + j * 4 + 1, none⟩) hg').trans q1
        have q2 := (hwr.cell (p := ⟨g', o2 + j * 4 + 2, none⟩) hg').trans q2
        have q3 := (hwr.cell (p := ⟨g', o2 + j * 4 + 3, none⟩) hg').trans q3
        have HCA := Lib.hid (fun (W : World) (hW : Below wr.heap.size wr W) => rsame_all _ x (Nat.le_refl _) W (fun _ => True) (fun _ => True) v0 v1 v2 v3 u0 u1 u2 u3 (hra.keep (Nat.le_trans hwr.size hW.size) (fun _ h _ => h) (fun b _ hb => (hW.block b (by have := hwr.size; omega)).trans (hwr.block b hb))) (hrb.keep (Nat.le_trans hwr.size hW.size) (fun _ h _ => h) (fun b _ hb => (hW.block b (by have := hwr.size; omega)).trans (hwr.block b hb))))
        clear hx hra hrb hwr
        go_wp2
        go_region_law (go_simp; go_at_call 13; refine (HCA.out _ (by first | exact (Below.refl _ _).drew | exact Below.refl _ _)).mono ?_; rintro en w4 ⟨rfl, hb4⟩; have HB4 := Lib.hid (show Below w2.heap.size w2 w4 from HBR.out.trans (Below.mono (show Below wr.heap.size wr w4 from by first | exact hb4 | exact (Below.refl wr.heap.size wr).drew.trans hb4) hzr)); clear hb4)
        all_goals
          go_wp2
          go_roundw
          case rel => exact ⟨j + 1, by go_num, by omega, HB4.out⟩
          case measure => simp only [intOf]; omega
      · obtain rfl : j = len := by omega
        have HB3 := Lib.hid (HB2.out.trans (HBR.out.mono HB2.out.size))
        have HAL := Lib.hid (yalive_any wr (HP.out.on HB3.out hB) (Nat.lt_of_lt_of_le hB HB3.out.size))
        go_wp2_with fail
        refine HAL.out.mono ?_
        rintro e w4 ⟨rfl, hb4⟩
        have HB4 := Lib.hid (HB3.out.trans (hb4.mono HB3.out.size))
        clear hb4
        go_wp2
        go_ret
        exact ⟨rfl, HB4.out⟩
  · have hlb : ¬ ((70000 : Int) < (bs.length : Int)) := by omega
    have HD1 := Lib.hid (yall_any A b o cap bs w h6 hA hn hat hcl hcm (by omega) hT)
    have HD2 := Lib.hid (fun w1 (hb1 : Below w.heap.size w w1) => dall_any A b o cap bs w1 (fun h => ⟨(hA h).1, Nat.lt_of_lt_of_le (hA h).2 hb1.size⟩) hn (fun j hj => (hb1.cell (p := ⟨b, o + j, none⟩) (hA (by rintro rfl; simp at hj)).2).trans (hat j hj)) hcl hcm (by omega))
    unfold AllPost at HD1 HD2
    obtain ⟨xs, h1⟩ : ∃ t, (allS bs (bs.length + 1) 0).1 = t := ⟨_, rfl⟩
    obtain ⟨p, h2⟩ : ∃ t, (allS bs (bs.length + 1) 0).2.1 = t := ⟨_, rfl⟩
    obtain ⟨f, h3⟩ : ∃ t, (allS bs (bs.length + 1) 0).2.2 = t := ⟨_, rfl⟩
    rw [h1, h2, h3] at HD1 HD2
    clear hA hat hT hp h1 h2 h3 hn
    obtain ⟨len, hlen⟩ : ∃ n, xs.length = n := ⟨_, rfl⟩
    have HLN := Lib.hid hlen
    rw [hlen] at HD1 HD2
    clear hlen
    go_enter Tryd.func5, Tryd.ntmps5
    go_wp2_with fail
    refine HD1.out.mono ?_
    rintro e w1 ⟨hb1, A1, c1, rfl, hx1⟩
    have HB1 := Lib.hid hb1
    have HX1 := Lib.hid hx1
    clear hb1 hx1
    go_wp2_with fail
    refine (HD2.out w1 HB1.out).mono ?_
    rintro e w2 ⟨hb2, A2, c2, rfl, hx2⟩
    have HB2 := Lib.hid (HB1.out.trans (hb2.mono HB1.out.size))
    have HKA := Lib.hid (HX1.out.keep (w' := w2) (Q := fun _ => True) hb2.size (fun _ _ _ => trivial) (fun g _ h => hb2.block g h)).form
    have HKB := Lib.hid (hx2.keep (w' := w2) (Q := fun _ => True) (Nat.le_refl _) (fun _ _ _ => trivial) (fun g _ h => rfl)).form
    clear hb2 hx2
    have hform : ∀ {A : Option Addr} {c : Nat}, (∃ (T : ByteArray) (A' : Option Addr) (c' : Nat), [Value.int .i64 6, .string ⟨#[]⟩, .int .i64 0, .slice A len c] = [.int .i64 (6 : Nat), .string T, .int .i64 0, .slice A' xs.length c'] ∧ T.data.toList = [] ∧ xs.length ≤ 9223372036854775807 ∧ ∀ (j : Nat) (x : RT), xs[j]? = some x → ∃ (g o : Nat) (v0 v1 v2 v3 : Value), A' = some ⟨g, o, none⟩ ∧ g < w2.heap.size ∧
      (w2.cell? ⟨g, o + j * 4, none⟩ = some v0 ∧ w2.cell? ⟨g, o + j * 4 + 1, none⟩ = some v1 ∧ w2.cell? ⟨g, o + j * 4 + 2, none⟩ = some v2 ∧ w2.cell? ⟨g, o + j * 4 + 3, none⟩ = some v3) ∧ RepAt w2 (fun _ => True) x [v0, v1, v2, v3]) →
      xs.length ≤ 9223372036854775807 ∧ ∀ (j : Nat) (x : RT), xs[j]? = some x → ∃ (g o : Nat) (v0 v1 v2 v3 : Value), A = some ⟨g, o, none⟩ ∧ g < w2.heap.size ∧
      (w2.cell? ⟨g, o + j * 4, none⟩ = some v0 ∧ w2.cell? ⟨g, o + j * 4 + 1, none⟩ = some v1 ∧ w2.cell? ⟨g, o + j * 4 + 2, none⟩ = some v2 ∧ w2.cell? ⟨g, o + j * 4 + 3, none⟩ = some v3) ∧ RepAt w2 (fun _ => True) x [v0, v1, v2, v3] := by
      rintro A c ⟨T, A', c', h1, h2, h3, h4⟩
      simp only [List.cons.injEq, Value.slice.injEq] at h1
      obtain ⟨_, _, _, ⟨rfl, _, _⟩, _⟩ := h1
      exact ⟨h3, h4⟩
    have hKA := hform HKA.out
    have hKB := hform HKB.out
    have hl63 := hKA.1
    rw [HLN.out] at hl63
    have HGA := Lib.hid hKA.2
    have HGB := Lib.hid hKB.2
    clear hform hKA hKB HKA HKB
    go_wp2
    go_loopw [9] (fun iv wr => ∃ j : Nat, iv = .int .i64 j ∧ j ≤ len ∧ Below w2.heap.size w2 wr) (fun iv _ => len - (intOf iv).toNat)
    case atStart => exact ⟨0, rfl, by omega, Below.refl _ _⟩
    case round =>
      obtain ⟨j, rfl, hj, hbr⟩ := hrel
      have HBR := Lib.hid hbr
      have hzr := hbr.size
      clear hbr
      by_cases hlt : j < len
      · obtain ⟨x, hx⟩ : ∃ x, xs[j]? = some x := ⟨_, List.getElem?_eq_getElem (by rw [HLN.out]; exact hlt)⟩
        obtain ⟨g, o1, v0, v1, v2, v3, rfl, hg, ⟨p0, p1, p2, p3⟩, hra⟩ := HGA.out j x hx
        obtain ⟨g', o2, u0, u1, u2, u3, rfl, hg', ⟨q0, q1, q2, q3⟩, hrb⟩ := HGB.out j x hx
        have hwr := HBR.out
        have p0 := (hwr.cell (p := ⟨g, o1 + j * 4, none⟩) hg).trans p0
        have p1 := (hwr.cell (p := ⟨g, o1 + j * 4 + 1, none⟩) hg).trans p1
        have p2 := (hwr.cell (p := ⟨g, o1 + j * 4 + 2, none⟩) hg).trans p2
        have p3 := (hwr.cell (p := ⟨g, o1 + j * 4 + 3, none⟩) hg).trans p3
        have q0 := (hwr.cell (p := ⟨g', o2 + j * 4, none⟩) hg').trans q0
        have q1 := (hwr.cell (p := ⟨g', o2 + j * 4 + 1, none⟩) hg').trans q1
        have q2 := (hwr.cell (p := ⟨g', o2 + j * 4 + 2, none⟩) hg').trans q2
        have q3 := (hwr.cell (p := ⟨g', o2 + j * 4 + 3, none⟩) hg').trans q3
        have HCA := Lib.hid (fun (W : World) (hW : Below wr.heap.size wr W) => rsame_all _ x (Nat.le_refl _) W (fun _ => True) (fun _ => True) v0 v1 v2 v3 u0 u1 u2 u3 (hra.keep (Nat.le_trans hwr.size hW.size) (fun _ h _ => h) (fun b _ hb => (hW.block b (by have := hwr.size; omega)).trans (hwr.block b hb))) (hrb.keep (Nat.le_trans hwr.size hW.size) (fun _ h _ => h) (fun b _ hb => (hW.block b (by have := hwr.size; omega)).trans (hwr.block b hb))))
        clear hx hra hrb hwr
        go_wp2
        go_region_law (go_simp; go_at_call 13; refine (HCA.out _ (by first | exact (Below.refl _ _).drew | exact Below.refl _ _)).mono ?_; rintro en w4 ⟨rfl, hb4⟩; have HB4 := Lib.hid (show Below w2.heap.size w2 w4 from HBR.out.trans (Below.mono (show Below wr.heap.size wr w4 from by first | exact hb4 | exact (Below.refl wr.heap.size wr).drew.trans hb4) hzr)); clear hb4)
        all_goals
          go_wp2
          go_roundw
          case rel => exact ⟨j + 1, by go_num, by omega, HB4.out⟩
          case measure => simp only [intOf]; omega
      · obtain rfl : j = len := by omega
        have HB3 := Lib.hid (HB2.out.trans (HBR.out.mono HB2.out.size))
        have HAL := Lib.hid (yalive_any wr (HP.out.on HB3.out hB) (Nat.lt_of_lt_of_le hB HB3.out.size))
        go_wp2_with fail
        refine HAL.out.mono ?_
        rintro e w4 ⟨rfl, hb4⟩
        have HB4 := Lib.hid (HB3.out.trans (hb4.mono HB3.out.size))
        clear hb4
        go_wp2
        go_ret
        exact ⟨rfl, HB4.out⟩

end Go.Proofs.YtppbcdollomebaaDoor
