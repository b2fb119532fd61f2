/-
  Package command: copied, names, the sort's comparison, takes, refused, unknown; the document's Error. Conditions: as typed.
-/
import Derived.Test.YtinpimejiepahaaCmD
import Derived.Test.YtinpimejiepahaaCmM
import Derived.Test.YtinpimejiepahaaTbC
import Derived.Deep.RegionWith
import Derived.Deep.QuietTactic
namespace Go.Proofs.Ytinpimejiepahaa
open Go.RowKit

/-- Seven cells in order. -/
def f7 (a0 a1 a2 a3 a4 a5 a6 : Value) : Nat → Value
  | 0 => a0
  | 1 => a1
  | 2 => a2
  | 3 => a3
  | 4 => a4
  | 5 => a5
  | _ => a6
theorem rows7 (w : World) (t : TypeId) (a0 a1 a2 a3 a4 a5 a6 : Value) : (w.alloc (.cells #[a0, a1, a2, a3, a4, a5, a6] t)).rowIs w.heap.size t 7 (f7 a0 a1 a2 a3 a4 a5 a6) :=
  World.rowIs_alloc w #[a0, a1, a2, a3, a4, a5, a6] t _ (fun i hi => by
    have hi : i < 7 := hi
    rcases (by omega : i = 0 ∨ i = 1 ∨ i = 2 ∨ i = 3 ∨ i = 4 ∨ i = 5 ∨ i = 6) with rfl | rfl | rfl | rfl | rfl | rfl | rfl <;> rfl)

/-- A box with a command's seven cells. -/
structure Box7 (w : World) (B : Nat) (a0 a1 a2 a3 a4 a5 a6 : Value) : Prop where
  lt : B < w.heap.size
  c0 : w.cell? ⟨B, 0, none⟩ = some a0
  c1 : w.cell? ⟨B, 1, none⟩ = some a1
  c2 : w.cell? ⟨B, 2, none⟩ = some a2
  c3 : w.cell? ⟨B, 3, none⟩ = some a3
  c4 : w.cell? ⟨B, 4, none⟩ = some a4
  c5 : w.cell? ⟨B, 5, none⟩ = some a5
  c6 : w.cell? ⟨B, 6, none⟩ = some a6
  fz : ∀ i, w.frozen? ⟨B, i, none⟩ = false
theorem box7_of_row {w : World} {B : Nat} {t : TypeId} {a0 a1 a2 a3 a4 a5 a6 : Value} (h : w.rowIs B t 7 (f7 a0 a1 a2 a3 a4 a5 a6)) : Box7 w B a0 a1 a2 a3 a4 a5 a6 :=
  ⟨h.lt, h.cell (i := 0) (by omega), h.cell (i := 1) (by omega), h.cell (i := 2) (by omega), h.cell (i := 3) (by omega), h.cell (i := 4) (by omega), h.cell (i := 5) (by omega), h.cell (i := 6) (by omega), fun i => h.frozen i⟩
theorem Box7.new (w : World) (t : TypeId) (a0 a1 a2 a3 a4 a5 a6 : Value) : Box7 (w.alloc (.cells #[a0, a1, a2, a3, a4, a5, a6] t)) w.heap.size a0 a1 a2 a3 a4 a5 a6 := box7_of_row (rows7 w t a0 a1 a2 a3 a4 a5 a6)
theorem Box7.block {w w' : World} {B : Nat} {a0 a1 a2 a3 a4 a5 a6 : Value} (h : Box7 w B a0 a1 a2 a3 a4 a5 a6) (e : w'.heap[B]? = w.heap[B]?) (hs : w.heap.size ≤ w'.heap.size) : Box7 w' B a0 a1 a2 a3 a4 a5 a6 :=
  ⟨Nat.lt_of_lt_of_le h.lt hs, (World.cell?_of_block (a := ⟨B, 0, none⟩) e).trans h.c0, (World.cell?_of_block (a := ⟨B, 1, none⟩) e).trans h.c1, (World.cell?_of_block (a := ⟨B, 2, none⟩) e).trans h.c2, (World.cell?_of_block (a := ⟨B, 3, none⟩) e).trans h.c3, (World.cell?_of_block (a := ⟨B, 4, none⟩) e).trans h.c4, (World.cell?_of_block (a := ⟨B, 5, none⟩) e).trans h.c5, (World.cell?_of_block (a := ⟨B, 6, none⟩) e).trans h.c6, fun i => (World.frozen?_of_block (a := ⟨B, i, none⟩) e).trans (h.fz i)⟩
theorem Box7.below {w w' : World} {B : Nat} {a0 a1 a2 a3 a4 a5 a6 : Value} (h : Box7 w B a0 a1 a2 a3 a4 a5 a6) (hb : Below w.heap.size w w') : Box7 w' B a0 a1 a2 a3 a4 a5 a6 := h.block (hb.block B h.lt) hb.size

set_option maxRecDepth 100000 in
set_option maxHeartbeats 4000000 in
theorem copied_any (T : ByteArray) (hT : T.size ≤ 140737488355328) (g ar f la st : Int) (wr : Bool) (w : World) :
    Calls Try.prog 24 #[.agg #[.string T, .int .i64 g, .int .i64 ar, .bool wr, .int .i64 f, .int .i64 la, .int .i64 st]] w fun e w' => e = .returned (.agg #[.string T, .int .i64 g, .int .i64 ar, .bool wr, .int .i64 f, .int .i64 la, .int .i64 st]) ∧ Below w.heap.size w w' := by
  have HCL := Lib.hid (fun W => clone_any T W hT)
  obtain ⟨M, hM⟩ : ∃ M, w.heap.size = M := ⟨_, rfl⟩
  obtain ⟨w1, hw1⟩ : ∃ w1, w.alloc (.cells #[.string T, .int .i64 g, .int .i64 ar, .bool wr, .int .i64 f, .int .i64 la, .int .i64 st] 27) = w1 := ⟨_, rfl⟩
  obtain ⟨w2, hw2⟩ : ∃ w2, w1.alloc (.cells #[.string ⟨#[]⟩, .int .i64 0, .int .i64 0, .bool false, .int .i64 0, .int .i64 0, .int .i64 0] 27) = w2 := ⟨_, rfl⟩
  have s1 : w1.heap.size = M + 1 := by rw [← hw1, World.size_alloc, hM]
  have s2 : w2.heap.size = M + 2 := by rw [← hw2, World.size_alloc, s1]
  have b1 : Below M w w1 := by rw [← hw1, ← hM]; exact (Below.refl _ _).alloc (Nat.le_refl _) _
  have b12 : Below w1.heap.size w1 w2 := by rw [← hw2]; exact (Below.refl _ _).alloc (Nat.le_refl _) _
  have r1 : Box7 w2 M (.string T) (.int .i64 g) (.int .i64 ar) (.bool wr) (.int .i64 f) (.int .i64 la) (.int .i64 st) := by
    refine Box7.below ?_ b12
    rw [← hw1, ← hM]
    exact Box7.new ..
  have r2 : Box7 w2 (M + 1) (.string ⟨#[]⟩) (.int .i64 0) (.int .i64 0) (.bool false) (.int .i64 0) (.int .i64 0) (.int .i64 0) := by
    rw [← hw2, ← s1]
    exact Box7.new ..
  have HB2 : Hid (Below M w w2) := b1.trans (b12.mono (by omega))
  have HR1 := Lib.hid r1
  have HR2 := Lib.hid r2
  have HS2 := Lib.hid s2
  have HW2 : Hid ((w.alloc (.cells #[.string T, .int .i64 g, .int .i64 ar, .bool wr, .int .i64 f, .int .i64 la, .int .i64 st] 27)).alloc (.cells #[.string ⟨#[]⟩, .int .i64 0, .int .i64 0, .bool false, .int .i64 0, .int .i64 0, .int .i64 0] 27) = w2) := by unfold Hid; rw [hw1, hw2]
  rw [hM]
  clear hw1 hw2 s1 s2 b1 b12 r1 r2
  go_enter Try.func24, Try.ntmps24
  go_wp2_with fail
  rw [HW2.out]
  refine (HCL.out _).mono ?_
  rintro e w3 ⟨rfl, hb3⟩
  obtain ⟨-, y0, y1, y2, y3, y4, y5, y6, yf⟩ := HR1.out.below hb3
  obtain ⟨-, z0, z1, z2, z3, z4, z5, z6, zf⟩ := HR2.out.below hb3
  have yf0 := yf 0
  have zf0 := zf 0
  have zf1 := zf 1
  have zf2 := zf 2
  have zf3 := zf 3
  have zf4 := zf 4
  have zf5 := zf 5
  have zf6 := zf 6
  have HB3 : Hid (Below M w w3) := HB2.out.trans (hb3.mono (by have := HS2.out; omega))
  clear hb3 yf zf
  go_wp2
  exact bodyPost_ret (v := .agg #[.string T, .int .i64 g, .int .i64 ar, .bool wr, .int .i64 f, .int .i64 la, .int .i64 st]) (by simp [results, Try.results24, go_sem, z0, z1, z2, z3, z4, z5, z6]) rfl ⟨rfl, by
    iterate 8 (refine Below.setCell ?_ (by dsimp only; omega) _)
    exact HB3.out⟩

set_option maxRecDepth 100000 in
set_option maxHeartbeats 4000000 in
theorem names_any (x sn : Tx) (hx : x.length ≤ 4611686018427387904) (g ar f la st : Int) (wr_ : Bool) (w : World) :
    Calls Try.prog 35 #[.string ⟨x.toArray⟩, .agg #[.string ⟨sn.toArray⟩, .int .i64 g, .int .i64 ar, .bool wr_, .int .i64 f, .int .i64 la, .int .i64 st]] w fun e w' => e = .returned (.bool (decide (lowL x = sn))) ∧ Below w.heap.size w w' := by
  obtain ⟨n, hn⟩ : ∃ n, x.length = n := ⟨_, rfl⟩
  obtain ⟨m, hm⟩ : ∃ m, sn.length = m := ⟨_, rfl⟩
  obtain ⟨S, hS⟩ : ∃ S : ByteArray, (⟨x.toArray⟩ : ByteArray) = S := ⟨_, rfl⟩
  obtain ⟨N, hN⟩ : ∃ N : ByteArray, (⟨sn.toArray⟩ : ByteArray) = N := ⟨_, rfl⟩
  have hSz : S.size = n := by rw [← hS, ← hn]; exact List.size_toArray ..
  have hNz : N.size = m := by rw [← hN, ← hm]; exact List.size_toArray ..
  rw [hS, hN]
  have HSA : Hid (∀ (i : Nat) (h : i < S.size), x[i]? = some S[i]) := fun i h => by
    subst hS
    have h' : i < x.length := by simpa [ByteArray.size] using h
    rw [List.getElem?_eq_getElem h']
    rfl
  have HNA : Hid (∀ (i : Nat) (h : i < N.size), sn[i]? = some N[i]) := fun i h => by
    subst hN
    have h' : i < sn.length := by simpa [ByteArray.size] using h
    rw [List.getElem?_eq_getElem h']
    rfl
  have HN := Lib.hid hn
  have HM := Lib.hid hm
  rw [hn] at hx
  obtain ⟨D, hD⟩ : ∃ D : Bool, decide (lowL x = sn) = D := ⟨_, rfl⟩
  have HD := Lib.hid hD
  rw [hD]
  clear hS hN hn hm hD
  by_cases hnm : n = m
  · subst hnm
    have c0 := (Box7.new w 27 (.string N) (.int .i64 g) (.int .i64 ar) (.bool wr_) (.int .i64 f) (.int .i64 la) (.int .i64 st)).c0
    have HC0 := Lib.hid c0
    go_enter Try.func35, Try.ntmps35
    go_wp2_with fail
    go_loopw [14] (fun iv wq => ∃ i : Nat, iv = .int .i64 i ∧ i ≤ n ∧ (∀ j : Nat, j < i → (lowL x)[j]? = sn[j]?) ∧ wq.cell? ⟨w.heap.size, 0, none⟩ = some (.string N) ∧ Below w.heap.size w wq) (fun iv _ => n - (intOf iv).toNat)
    case atStart => exact ⟨0, rfl, Nat.zero_le _, fun j h => absurd h (Nat.not_lt_zero _), HC0.out, (Below.refl _ _).alloc (Nat.le_refl _) _⟩
    case round =>
      obtain ⟨i, rfl, hi, hr, d0, hb⟩ := hrel
      have HR := Lib.hid hr
      have HB := Lib.hid hb
      have HD0 := Lib.hid d0
      clear hr hb
      by_cases hlt : i < n
      · have hlt' : (i : Int) < (n : Int) := by omega
        have hi0 : (0 : Int) ≤ (i : Int) := by omega
        have hi1 : i < S.size := by omega
        have hi2 : i < N.size := by omega
        have d1 : wr.drew.cell? ⟨w.heap.size, 0, none⟩ = some (.string N) := d0
        have HX := Lib.hid (HSA.out i hi1)
        have HY := Lib.hid (HNA.out i hi2)
        by_cases hq : lowN (S[i]).toNat = (N[i]).toNat
        · have HQ := Lib.hid hq
          go_wp2_with fail
          go_region_with (go_at_call 37; refine (small_any _ (UInt8.toNat_lt _) _).mono ?_; rintro en w4 ⟨rfl, rfl⟩)
          all_goals
            go_wp2
            go_roundw
            case rel =>
              refine ⟨i + 1, by go_num, hlt, fun j hj => ?_, HD0.out, HB.out.drew⟩
              rcases (by omega : j < i ∨ j = i) with q | rfl
              · exact HR.out j q
              · unfold lowL
                rw [List.getElem?_map, HX.out, HY.out, Option.map_some]
                congr 1
                apply UInt8.toNat_inj.1
                rw [lowB_toNat, HQ.out]
            case measure => simp only [intOf]; omega
        · have HE : Hid (D = false) := by
            unfold Hid
            rw [← HD.out]
            refine decide_eq_false fun e => ?_
            have q := congrArg (fun l : Tx => l[i]?) e
            unfold lowL at q
            simp only [List.getElem?_map, HX.out, HY.out, Option.map_some, Option.some.injEq] at q
            exact hq (by rw [← lowB_toNat, q])
          go_wp2_with fail
          go_region_with (go_at_call 37; refine (small_any _ (UInt8.toNat_lt _) _).mono ?_; rintro en w4 ⟨rfl, rfl⟩)
          all_goals
            go_wp2
            go_ret
            exact ⟨by rw [HE.out]; rfl, HB.out.drew⟩
      · obtain rfl : i = n := by omega
        have hlt' : ¬ (i : Int) < (i : Int) := by omega
        have HE : Hid (D = true) := by
          unfold Hid
          rw [← HD.out]
          refine decide_eq_true (List.ext_getElem? fun j => ?_)
          by_cases q : j < i
          · exact HR.out j q
          · rw [List.getElem?_eq_none (by rw [lowL_length, HN.out]; omega), List.getElem?_eq_none (by rw [HM.out]; omega)]
        go_wp2
        go_ret
        exact ⟨by rw [HE.out]; rfl, HB.out⟩
  · have h1 : ¬ (n : Int) = (m : Int) := by omega
    have HE : Hid (D = false) := by
      unfold Hid
      rw [← HD.out, decide_eq_false]
      intro e
      have q := congrArg List.length e
      rw [lowL_length, HN.out, HM.out] at q
      exact hnm q
    rw [HE.out]
    go_enter Try.func35, Try.ntmps35
    go_wp2
    go_ret
    exact ⟨rfl, (Below.refl _ _).alloc (Nat.le_refl _) _⟩

end Go.Proofs.Ytinpimejiepahaa
