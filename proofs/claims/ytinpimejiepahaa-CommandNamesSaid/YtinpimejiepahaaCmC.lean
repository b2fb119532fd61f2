/-
  The document's own All: every group's rows one behind the other, then each put where its name stands: the table by name. No condition.
-/
import Derived.Test.YtinpimejiepahaaCmB
import Derived.Deep.RegionHeld3
import Derived.Deep.RegionLaw
import Derived.Deep.RegionWith
import Derived.Deep.QuietTactic
namespace Go.Proofs.Ytinpimejiepahaa
open Go.RowKit

theorem sp_one (W : World) (nm : Tx) (g ar f la st : Int) (wr : Bool) (T : ByteArray) (hT : (⟨nm.toArray⟩ : ByteArray) = T) (b : Nat) (hb : b = W.heap.size) :
    SpAt (W.alloc (.cells #[.string T, .int .i64 g, .int .i64 ar, .bool wr, .int .i64 f, .int .i64 la, .int .i64 st] 27)) (some ⟨b, 0, none⟩) 1 1 [(nm, g, ar, wr, f, la, st)] := by
  subst hT
  exact SpAt.lit W [(nm, g, ar, wr, f, la, st)] b hb (Nat.succ_pos _) (by simp) _ rfl 1 rfl

theorem sp_grown {W W' : World} {b o n c : Nat} {l : List Sp} {r : Option Nat} (h : SpAt W (some ⟨b, o, none⟩) n c l) (hg : W.grownBy W' r) (hn : some b ≠ r) : SpAt W' (some ⟨b, o, none⟩) n c l :=
  h.keep hg.size (fun b' o' hn' e => by
    obtain ⟨b2, o2, e2, hb, _⟩ := h.at_ hn'
    injection e with e
    injection e with e1 e3
    injection e2 with e2
    injection e2 with e4 e5
    subst e1
    exact hg.block b (by omega) hn)

def accR1 : List Sp := rw1.map (toSp 1)
def accR2 : List Sp := accR1 ++ rw2.map (toSp 2)
def accR3 : List Sp := accR2 ++ rw3.map (toSp 3)
def accR4 : List Sp := accR3 ++ rw4.map (toSp 4)
def accR5 : List Sp := accR4 ++ rw5.map (toSp 5)
def accR6 : List Sp := accR5 ++ rw6.map (toSp 6)
def accR7 : List Sp := accR6 ++ rw7.map (toSp 7)
theorem accR_all : accR7 = rowsT := by
  show ((((((rw1.map (toSp 1)) ++ rw2.map (toSp 2)) ++ rw3.map (toSp 3)) ++ rw4.map (toSp 4)) ++ rw5.map (toSp 5)) ++ rw6.map (toSp 6)) ++ rw7.map (toSp 7) = rowsT
  unfold rowsT
  simp only [List.append_assoc]
def foldI (i : Nat) : List Sp := (rowsT.take i).foldl insR []
theorem foldI_step {i : Nat} {x : Sp} (h : rowsT[i]? = some x) : foldI (i + 1) = insR (foldI i) x := by
  unfold foldI
  rw [List.take_add_one, h, Option.toList_some, List.foldl_append]
  rfl
theorem foldI_all : foldI 99 = byN := by
  unfold foldI byN
  rw [List.take_of_length_le (by rw [rows_len]; exact Nat.le_refl _)]
theorem foldI_ne {n : Nat} {x y : Sp} (hx : rowsT[n]? = some x) (hy : y ∈ foldI n) : ¬ y.1 = x.1 := by
  have hp : (foldI n).Perm (rowsT.take n) := by
    have q := (fold_ris (rowsT.take n) [] List.Pairwise.nil (names_nodup.sublist ((List.take_sublist n rowsT).map (·.1)))).2
    exact q
  obtain ⟨i, hi⟩ := List.mem_iff_getElem?.1 (hp.mem_iff.1 hy)
  rw [List.getElem?_take] at hi
  split at hi
  · rename_i hlt
    obtain ⟨l1, e1⟩ := List.getElem?_eq_some_iff.1 hi
    obtain ⟨l2, e2⟩ := List.getElem?_eq_some_iff.1 hx
    have q := List.pairwise_iff_getElem.1 (List.pairwise_map.1 names_nodup) i n l1 l2 hlt
    rw [e1, e2] at q
    exact q
  · cases hi
theorem upK_step {out : List Sp} {x : Tx} {k : Nat} {y : Sp} (h : out[k]? = some y) : upK out x (k + 1) = if x < y.1 then upK out x k else k + 1 := by
  conv => lhs; unfold upK
  rw [h]

set_option maxRecDepth 100000 in
set_option maxHeartbeats 16000000 in
theorem rall_any (w : World) : Calls Try.prog 9 #[] w fun e w' => ∃ A c, e = .returned (.slice A 99 c) ∧ SpAt w' A 99 c byN ∧ Below w.heap.size w w' ∧ Frh w.heap.size A := by
  obtain ⟨M, hM⟩ : ∃ M, w.heap.size = M := ⟨_, rfl⟩
  have HM := Lib.hid hM
  rw [hM]
  clear hM
  go_enter Try.func9, Try.ntmps9
  go_wp2_with fail
  refine (rows1_any _).mono ?_
  rintro e x1 ⟨A1, c1, rfl, h1, b1⟩
  have HX1 : Hid (Below M w x1) := by rw [← HM.out]; exact b1
  have HR1 := Lib.hid h1
  have m1 : M ≤ x1.heap.size := by have q := HX1.out.size; have := HM.out; omega
  clear h1 b1
  go_wp2_with (at_builtin; refine wpList_append_sp rfl _ _ rfl M (.slice none 0 0) 0 [] rfl (World.ownsRow_nil _ _ _ _) A1 18 c1 _ rfl HR1.out (by omega) m1 ?_)
  intro v1 w1 hown hgr _
  replace hown : w1.ownsRow M 27 7 v1 18 (scells accR1) := hown
  obtain ⟨V1, k1, rfl⟩ := own_slice hown
  have HO1 := Lib.hid hown
  have HW1 : Hid (Below M w w1) := HX1.out.grown hgr m1 (fun k e => by cases e)
  clear hown hgr
  go_wp2_with fail
  refine (rows2_any _).mono ?_
  rintro e x2 ⟨A2, c2, rfl, h2, b2⟩
  have HX2 : Hid (Below M w x2) := HW1.out.trans (b2.mono (by have q := HW1.out.size; have := HM.out; omega))
  have HR2 := Lib.hid h2
  have m2 : M ≤ x2.heap.size := by have q := HX2.out.size; have := HM.out; omega
  have HP2 := Lib.hid (own_below HO1.out b2)
  clear h2 b2
  go_wp2_with (at_builtin; refine wpList_append_sp rfl _ _ rfl M (.slice V1 18 k1) 18 accR1 rfl HP2.out A2 15 c2 _ rfl HR2.out (by omega) m2 ?_)
  intro v2 w2 hown hgr _
  replace hown : w2.ownsRow M 27 7 v2 33 (scells accR2) := hown
  obtain ⟨V2, k2, rfl⟩ := own_slice hown
  have HO2 := Lib.hid hown
  have HW2 : Hid (Below M w w2) := HX2.out.grown hgr m2 (fun k e => (HP2.out.lt k e).1)
  clear hown hgr
  go_wp2_with fail
  refine (rows3_any _).mono ?_
  rintro e x3 ⟨A3, c3, rfl, h3, b3⟩
  have HX3 : Hid (Below M w x3) := HW2.out.trans (b3.mono (by have q := HW2.out.size; have := HM.out; omega))
  have HR3 := Lib.hid h3
  have m3 : M ≤ x3.heap.size := by have q := HX3.out.size; have := HM.out; omega
  have HP3 := Lib.hid (own_below HO2.out b3)
  clear h3 b3
  go_wp2_with (at_builtin; refine wpList_append_sp rfl _ _ rfl M (.slice V2 33 k2) 33 accR2 rfl HP3.out A3 15 c3 _ rfl HR3.out (by omega) m3 ?_)
  intro v3 w3 hown hgr _
  replace hown : w3.ownsRow M 27 7 v3 48 (scells accR3) := hown
  obtain ⟨V3, k3, rfl⟩ := own_slice hown
  have HO3 := Lib.hid hown
  have HW3 : Hid (Below M w w3) := HX3.out.grown hgr m3 (fun k e => (HP3.out.lt k e).1)
  clear hown hgr
  go_wp2_with fail
  refine (rows4_any _).mono ?_
  rintro e x4 ⟨A4, c4, rfl, h4, b4⟩
  have HX4 : Hid (Below M w x4) := HW3.out.trans (b4.mono (by have q := HW3.out.size; have := HM.out; omega))
  have HR4 := Lib.hid h4
  have m4 : M ≤ x4.heap.size := by have q := HX4.out.size; have := HM.out; omega
  have HP4 := Lib.hid (own_below HO3.out b4)
  clear h4 b4
  go_wp2_with (at_builtin; refine wpList_append_sp rfl _ _ rfl M (.slice V3 48 k3) 48 accR3 rfl HP4.out A4 15 c4 _ rfl HR4.out (by omega) m4 ?_)
  intro v4 w4 hown hgr _
  replace hown : w4.ownsRow M 27 7 v4 63 (scells accR4) := hown
  obtain ⟨V4, k4, rfl⟩ := own_slice hown
  have HO4 := Lib.hid hown
  have HW4 : Hid (Below M w w4) := HX4.out.grown hgr m4 (fun k e => (HP4.out.lt k e).1)
  clear hown hgr
  go_wp2_with fail
  refine (rows5_any _).mono ?_
  rintro e x5 ⟨A5, c5, rfl, h5, b5⟩
  have HX5 : Hid (Below M w x5) := HW4.out.trans (b5.mono (by have q := HW4.out.size; have := HM.out; omega))
  have HR5 := Lib.hid h5
  have m5 : M ≤ x5.heap.size := by have q := HX5.out.size; have := HM.out; omega
  have HP5 := Lib.hid (own_below HO4.out b5)
  clear h5 b5
  go_wp2_with (at_builtin; refine wpList_append_sp rfl _ _ rfl M (.slice V4 63 k4) 63 accR4 rfl HP5.out A5 12 c5 _ rfl HR5.out (by omega) m5 ?_)
  intro v5 w5 hown hgr _
  replace hown : w5.ownsRow M 27 7 v5 75 (scells accR5) := hown
  obtain ⟨V5, k5, rfl⟩ := own_slice hown
  have HO5 := Lib.hid hown
  have HW5 : Hid (Below M w w5) := HX5.out.grown hgr m5 (fun k e => (HP5.out.lt k e).1)
  clear hown hgr
  go_wp2_with fail
  refine (rows6_any _).mono ?_
  rintro e x6 ⟨A6, c6, rfl, h6, b6⟩
  have HX6 : Hid (Below M w x6) := HW5.out.trans (b6.mono (by have q := HW5.out.size; have := HM.out; omega))
  have HR6 := Lib.hid h6
  have m6 : M ≤ x6.heap.size := by have q := HX6.out.size; have := HM.out; omega
  have HP6 := Lib.hid (own_below HO5.out b6)
  clear h6 b6
  go_wp2_with (at_builtin; refine wpList_append_sp rfl _ _ rfl M (.slice V5 75 k5) 75 accR5 rfl HP6.out A6 16 c6 _ rfl HR6.out (by omega) m6 ?_)
  intro v6 w6 hown hgr _
  replace hown : w6.ownsRow M 27 7 v6 91 (scells accR6) := hown
  obtain ⟨V6, k6, rfl⟩ := own_slice hown
  have HO6 := Lib.hid hown
  have HW6 : Hid (Below M w w6) := HX6.out.grown hgr m6 (fun k e => (HP6.out.lt k e).1)
  clear hown hgr
  go_wp2_with fail
  refine (rows7_any _).mono ?_
  rintro e x7 ⟨A7, c7, rfl, h7, b7⟩
  have HX7 : Hid (Below M w x7) := HW6.out.trans (b7.mono (by have q := HW6.out.size; have := HM.out; omega))
  have HR7 := Lib.hid h7
  have m7 : M ≤ x7.heap.size := by have q := HX7.out.size; have := HM.out; omega
  have HP7 := Lib.hid (own_below HO6.out b7)
  clear h7 b7
  go_wp2_with (at_builtin; refine wpList_append_sp rfl _ _ rfl M (.slice V6 91 k6) 91 accR6 rfl HP7.out A7 8 c7 _ rfl HR7.out (by omega) m7 ?_)
  intro v7 w7 hown hgr _
  replace hown : w7.ownsRow M 27 7 v7 99 (scells accR7) := hown
  obtain ⟨V7, k7, rfl⟩ := own_slice hown
  have HO7 := Lib.hid hown
  have HW7 : Hid (Below M w w7) := HX7.out.grown hgr m7 (fun k e => (HP7.out.lt k e).1)
  clear hown hgr
  have HL : Hid (SpAt w7 V7 99 k7 rowsT) := by unfold Hid; rw [← accR_all]; exact SpAt.own HO7.out
  have hlc := HL.out.le
  have hlm := HL.out.max
  clear m1 m2 m3 m4 m5 m6 m7 HO1 HO2 HO3 HO4 HO5 HO6 HO7 HR1 HR2 HR3 HR4 HR5 HR6 HR7 HP2 HP3 HP4 HP5 HP6 HP7
  go_wp2_with fail
  go_loopw [2, 3, 4] (fun ov iv _ wr => ∃ (A : Option Addr) (i cp : Nat), ov = .slice A i cp ∧ iv = .int .i64 (i : Nat) ∧ i ≤ 99 ∧ SpAt wr A i cp (foldI i) ∧ Below w7.heap.size w7 wr ∧ Frh M A) (fun _ iv _ _ => 99 - (intOf iv).toNat)
  case atStart => exact ⟨none, 0, 0, rfl, rfl, by omega, SpAt.nil _, Below.refl _ _, Frh.none _⟩
  case round =>
    obtain ⟨A, n, cp, rfl, rfl, hi, hs, hb, hfr⟩ := hrel
    obtain ⟨wo, rfl⟩ : ∃ x, x = wr := ⟨_, rfl⟩
    have HS := Lib.hid hs
    have HB := Lib.hid hb
    have hle := hs.le
    have hmx := hs.max
    clear hs hb
    by_cases hlt : n < 99
    · obtain ⟨⟨nm, g, ar, wr_, f, la, st⟩, hx⟩ := HL.out.get (j := n) hlt
      obtain ⟨b, o, rfl, hbl, hc⟩ := HL.out.at_ (by omega)
      have HC7 := Lib.hid (SpAt.seven hc hx)
      have HBL := Lib.hid hbl
      have HF := Lib.hid (foldI_step hx)
      have HCX : Hid (∀ X, Below w7.heap.size w7 X → X.cell? ⟨b, o + n * 7, none⟩ = some (.string ⟨nm.toArray⟩) ∧ X.cell? ⟨b, o + n * 7 + 1, none⟩ = some (.int .i64 g) ∧ X.cell? ⟨b, o + n * 7 + 2, none⟩ = some (.int .i64 ar) ∧ X.cell? ⟨b, o + n * 7 + 3, none⟩ = some (.bool wr_) ∧ X.cell? ⟨b, o + n * 7 + 4, none⟩ = some (.int .i64 f) ∧ X.cell? ⟨b, o + n * 7 + 5, none⟩ = some (.int .i64 la) ∧ X.cell? ⟨b, o + n * 7 + 6, none⟩ = some (.int .i64 st)) := fun X hX =>
        ⟨(hX.cell (p := ⟨b, o + n * 7, none⟩) HBL.out).trans HC7.out.1, (hX.cell (p := ⟨b, o + n * 7 + 1, none⟩) HBL.out).trans HC7.out.2.1, (hX.cell (p := ⟨b, o + n * 7 + 2, none⟩) HBL.out).trans HC7.out.2.2.1, (hX.cell (p := ⟨b, o + n * 7 + 3, none⟩) HBL.out).trans HC7.out.2.2.2.1, (hX.cell (p := ⟨b, o + n * 7 + 4, none⟩) HBL.out).trans HC7.out.2.2.2.2.1, (hX.cell (p := ⟨b, o + n * 7 + 5, none⟩) HBL.out).trans HC7.out.2.2.2.2.2.1, (hX.cell (p := ⟨b, o + n * 7 + 6, none⟩) HBL.out).trans HC7.out.2.2.2.2.2.2⟩
      have HNE := Lib.hid (fun y (hy : y ∈ foldI n) => foldI_ne hx hy)
      obtain ⟨F, hFn⟩ : ∃ F, foldI n = F := ⟨_, rfl⟩
      rw [hFn] at HS HF HNE
      obtain ⟨P, hP⟩ : ∃ P, foldI (n + 1) = P := ⟨_, rfl⟩
      have HP := Lib.hid hP
      rw [hP] at HF
      obtain ⟨U, hU⟩ : ∃ U, upK F nm n = U := ⟨_, rfl⟩
      have HU := Lib.hid hU
      have HPL : Hid (P.length = n + 1) := by unfold Hid; rw [HF.out, insR_length, HS.out.len]
      have HPE0 : Hid (F.take U ++ [(nm, g, ar, wr_, f, la, st)] ++ F.drop U = P) := by
        unfold Hid
        rw [HF.out]
        unfold insR
        rw [HS.out.len]
        show _ = F.take (upK F nm n) ++ (nm, g, ar, wr_, f, la, st) :: F.drop (upK F nm n)
        rw [hU, List.append_assoc]
        rfl
      obtain ⟨x, hxx⟩ : ∃ x : Sp, (nm, g, ar, wr_, f, la, st) = x := ⟨_, rfl⟩
      have HXN : Hid (∀ (W : World) (c : Nat), c = W.heap.size → SpAt (W.alloc (.cells #[.string ⟨nm.toArray⟩, .int .i64 g, .int .i64 ar, .bool wr_, .int .i64 f, .int .i64 la, .int .i64 st] 27)) (some ⟨c, 0, none⟩) 1 1 [x]) := fun W c hc => hxx ▸ sp_one W nm g ar f la st wr_ _ rfl c hc
      have HPE : Hid (F.take U ++ [x] ++ F.drop U = P) := by
        unfold Hid
        rw [← hxx]
        exact HPE0.out
      have hlt' : (n : Int) < 99 := by omega
      have hkz : M ≤ w7.heap.size := by have q := HW7.out.size; have := HM.out; omega
      have hn0 : (0 : Int) ≤ (n : Int) := by omega
      clear hc hx hFn hP hU hbl HC7 hxx HPE0
      go_wp2_with fail
      go_loopw [4] (fun kv wq => ∃ k : Nat, kv = .int .i64 (k : Nat) ∧ k ≤ n ∧ upK F nm k = U ∧ Below wo.heap.size wo wq) (fun kv _ => (intOf kv).toNat)
      case atStart => exact ⟨n, rfl, Nat.le_refl _, HU.out, Below.refl _ _⟩
      case round =>
        obtain ⟨k, rfl, hk, huk, hbq⟩ := hrel
        have HBQ := Lib.hid hbq
        have HX7 : Hid (Below w7.heap.size w7 wr) := bup HB.out hbq
        have d0 := (HCX.out _ HX7.out).1
        have HUK := Lib.hid huk
        clear hbq huk
        rcases Nat.eq_zero_or_pos k with h0 | h0
        · have HUE : Hid (U = k) := by
            unfold Hid
            rw [← HUK.out, h0]
            rfl
          have hk0 : ¬ (0 : Int) < (k : Int) := by omega
          have hk1 : ¬ 0 < k := by omega
          have HK0 := Lib.hid h0
          clear HUK h0
          go_wp2_with fail
          go_quiet (fail)
          have HB5 : Hid (Below wo.heap.size wo (wr.drewN nq)) := HBQ.out.trans (below_drewN _ _ _)
          have HB7 : Hid (Below w7.heap.size w7 (wr.drewN nq)) := HX7.out.trans (below_drewN _ _ _)
          obtain ⟨y1, hy1⟩ : ∃ z, wr.drewN nq = z := ⟨_, rfl⟩
          rw [hy1] at HB5 HB7 ⊢
          clear hy1
          have hkc : (k : Int) ≤ (cp : Int) := by omega
          have hkn : (k : Int) ≤ (n : Int) := by omega
          have hk00 : (0 : Int) ≤ (k : Int) := by omega
          have hbx : Below y1.heap.size y1 (y1.drew.alloc (.cells #[] 27)) := (Below.refl _ _).drew.alloc (Nat.le_refl _) _
          have hbx2 : Below y1.heap.size y1 (y1.drew.alloc (.cells #[.string ⟨nm.toArray⟩, .int .i64 g, .int .i64 ar, .bool wr_, .int .i64 f, .int .i64 la, .int .i64 st] 27)) := (Below.refl _ _).drew.alloc (Nat.le_refl _) _
          have hsX : (y1.drew.alloc (.cells #[.string ⟨nm.toArray⟩, .int .i64 g, .int .i64 ar, .bool wr_, .int .i64 f, .int .i64 la, .int .i64 st] 27)).heap.size = y1.heap.size + 1 := by rw [World.size_alloc]; rfl
          have hsE : (y1.drew.alloc (.cells #[] 27)).heap.size = y1.heap.size + 1 := by rw [World.size_alloc]; rfl
          have HEMP : Hid ((y1.drew.alloc (.cells #[] 27)).ownsRow y1.heap.size 27 7 (.slice (some ⟨y1.drew.heap.size, 0, none⟩) 0 0) 0 (scells [])) := World.ownsRow_made y1.drew #[] 0 (Nat.le_refl _) (by decide) rfl
          have HEMB : Hid (((y1.drew.alloc (.cells #[] 27)).alloc (.cells #[.string ⟨nm.toArray⟩, .int .i64 g, .int .i64 ar, .bool wr_, .int .i64 f, .int .i64 la, .int .i64 st] 27)).ownsRow y1.heap.size 27 7 (.slice (some ⟨y1.drew.heap.size, 0, none⟩) 0 0) 0 (scells [])) := HEMP.out.alloc _
          have HEMC : Hid (((y1.drew.alloc (.cells #[.string ⟨nm.toArray⟩, .int .i64 g, .int .i64 ar, .bool wr_, .int .i64 f, .int .i64 la, .int .i64 st] 27)).alloc (.cells #[] 27)).ownsRow y1.heap.size 27 7 (.slice (some ⟨y1.heap.size + 1, 0, none⟩) 0 0) 0 (scells [])) := by
            have q := World.ownsRow_made (base := y1.heap.size) (e := 27) (size := 7) (y1.drew.alloc (.cells #[.string ⟨nm.toArray⟩, .int .i64 g, .int .i64 ar, .bool wr_, .int .i64 f, .int .i64 la, .int .i64 st] 27)) #[] 0 (by rw [hsX]; omega) (by decide) rfl
            rw [hsX] at q
            exact q
          have HBE := Lib.hid hbx
          have HBB : Hid (Below y1.heap.size y1 ((y1.drew.alloc (.cells #[] 27)).alloc (.cells #[.string ⟨nm.toArray⟩, .int .i64 g, .int .i64 ar, .bool wr_, .int .i64 f, .int .i64 la, .int .i64 st] 27))) := hbx.alloc hbx.size _
          have HBC : Hid (Below y1.heap.size y1 ((y1.drew.alloc (.cells #[.string ⟨nm.toArray⟩, .int .i64 g, .int .i64 ar, .bool wr_, .int .i64 f, .int .i64 la, .int .i64 st] 27)).alloc (.cells #[] 27))) := hbx2.alloc hbx2.size _
          have HXB : Hid (SpAt ((y1.drew.alloc (.cells #[] 27)).alloc (.cells #[.string ⟨nm.toArray⟩, .int .i64 g, .int .i64 ar, .bool wr_, .int .i64 f, .int .i64 la, .int .i64 st] 27)) (some ⟨y1.heap.size + 1, 0, none⟩) 1 1 [x]) := HXN.out _ _ hsE.symm
          have HXC : Hid (SpAt ((y1.drew.alloc (.cells #[.string ⟨nm.toArray⟩, .int .i64 g, .int .i64 ar, .bool wr_, .int .i64 f, .int .i64 la, .int .i64 st] 27)).alloc (.cells #[] 27)) (some ⟨y1.heap.size, 0, none⟩) 1 1 [x]) := (HXN.out y1.drew y1.heap.size rfl).below ((Below.refl _ _).alloc (Nat.le_refl _) _)
          have HSX := Lib.hid (fun X (hX : Below y1.heap.size y1 X) => (HS.out.below (bup HB5.out hX)).first hk)
          have HS3 := Lib.hid (fun X (hX : Below y1.heap.size y1 X) => (HS.out.below (bup HB5.out hX)).rest hk)
          have HCL : Hid (∀ (w4 : World) (v4 : Value) (mm : Nat), Below y1.heap.size y1 w4 → w4.ownsRow y1.heap.size 27 7 v4 mm (scells (F.take k ++ [x] ++ F.drop k)) → mm = k + 1 + (n - k) → ∃ A' c', v4 = .slice A' (n + 1) c' ∧ SpAt w4 A' (n + 1) c' P ∧ Below w7.heap.size w7 w4 ∧ Frh M A') := fun w4 v4 mm h1 h2 e => by
            have e2 : F.take k ++ [x] ++ F.drop k = P := by rw [← HUE.out]; exact HPE.out
            obtain rfl : mm = n + 1 := by omega
            rw [e2] at h2
            obtain ⟨A', c', q1, q2, q3⟩ := sp_of_own h2
            exact ⟨A', c', q1, q2, bup HB7.out h1, q3.mono (by have q := HB7.out.size; omega)⟩
          have HQ : Hid (∀ X, Below y1.heap.size y1 X → X.cell? ⟨b, o + n * 7, none⟩ = some (.string ⟨nm.toArray⟩) ∧ X.cell? ⟨b, o + n * 7 + 1, none⟩ = some (.int .i64 g) ∧ X.cell? ⟨b, o + n * 7 + 2, none⟩ = some (.int .i64 ar) ∧ X.cell? ⟨b, o + n * 7 + 3, none⟩ = some (.bool wr_) ∧ X.cell? ⟨b, o + n * 7 + 4, none⟩ = some (.int .i64 f) ∧ X.cell? ⟨b, o + n * 7 + 5, none⟩ = some (.int .i64 la) ∧ X.cell? ⟨b, o + n * 7 + 6, none⟩ = some (.int .i64 st)) := fun X hX => HCX.out X (bup HB7.out hX)
          obtain ⟨q20, q21, q22, q23, q24, q25, q26⟩ := HQ.out y1 (Below.refl _ _)
          obtain ⟨q30, q31, q32, q33, q34, q35, q36⟩ := HQ.out y1.drew (Below.refl _ _).drew
          obtain ⟨q40, q41, q42, q43, q44, q45, q46⟩ := HQ.out _ hbx
          obtain ⟨q50, q51, q52, q53, q54, q55, q56⟩ := HQ.out ((y1.alloc (.cells #[] 27)).drew) ((Below.refl _ _).alloc (Nat.le_refl _) _).drew
          clear hbx hbx2 hsX hsE
          by_cases hci : cp = k
          · subst hci
            rw [if_pos rfl] at HS3
            have h00 : n - cp = 0 := by omega
            rw [h00, Nat.sub_self] at HS3
            go_wp2_with fail
            go_region_law (first
              | (have qq := HB12; (refine step_append_sp rfl _ _ rfl y1.heap.size (.slice A12 (cp + 1) k12) (cp + 1) _ rfl HO12.out A 0 0 _ rfl (HS3.out w12 HB12.out) (by omega) HB12.out.size ?_); intro v14 w14 hown hgr _; have hb4 := HB12.out.trans ((Below.refl _ _).grown hgr HB12.out.size (fun k e => (HO12.out.lt k e).1)); obtain ⟨A14, c14, rfl, hq14⟩ := HCL.out w14 v14 _ hb4 hown (by omega); have HE := Lib.hid hq14; clear hown hgr hb4 hq14)
              | (have qq := HB11; (first
                  | refine step_append_sp rfl _ _ rfl y1.heap.size (.slice A11 cp k11) cp _ rfl (HO11.out.alloc _) (some ⟨w11.heap.size, 0, none⟩) 1 1 [x] rfl (HXN.out w11 _ rfl) (by omega) (by have := HB11.out.size; simp; omega) ?_
                  | refine step_append_sp rfl _ _ rfl y1.heap.size (.slice A11 cp k11) cp _ rfl HO11.out (some ⟨y1.heap.size + 1, 0, none⟩) 1 1 [x] rfl HXE.out (by omega) HB11.out.size ?_
                  | refine step_append_sp rfl _ _ rfl y1.heap.size (.slice A11 cp k11) cp _ rfl HO11.out (some ⟨y1.heap.size, 0, none⟩) 1 1 [x] rfl HXE.out (by omega) HB11.out.size ?_); intro v12 w12 hown hgr _; unfold SpO at hown; obtain ⟨A12, k12, rfl⟩ := own_slice hown; have HB12 : Hid (Below y1.heap.size y1 w12) := (by first | exact (HB11.out.alloc HB11.out.size _).trans ((Below.refl _ _).grown hgr (by have := HB11.out.size; simp; omega) (fun k e => (HO11.out.lt k e).1)) | exact HB11.out.trans ((Below.refl _ _).grown hgr HB11.out.size (fun k e => (HO11.out.lt k e).1))); have HO12 := Lib.hid hown; clear hown hgr)
              | ((first
                  | (refine step_append_sp rfl _ _ rfl y1.heap.size (.slice (some ⟨y1.drew.heap.size, 0, none⟩) 0 0) 0 [] rfl HEMP.out A cp cp (F.take cp) rfl (HSX.out _ HBE.out) (by omega) HBE.out.size ?_; intro v11 w11 hown hgr _; have HB11 : Hid (Below y1.heap.size y1 w11) := HBE.out.trans ((Below.refl _ _).grown hgr HBE.out.size (fun k e => (HEMP.out.lt k e).1)))
                  | (refine step_append_sp rfl _ _ rfl y1.heap.size (.slice (some ⟨y1.drew.heap.size, 0, none⟩) 0 0) 0 [] rfl HEMB.out A cp cp (F.take cp) rfl (HSX.out _ HBB.out) (by omega) HBB.out.size ?_; intro v11 w11 hown hgr _; have HB11 : Hid (Below y1.heap.size y1 w11) := HBB.out.trans ((Below.refl _ _).grown hgr HBB.out.size (fun k e => (HEMB.out.lt k e).1)); have HXE := Lib.hid (sp_grown HXB.out hgr (by intro e; injection e with e; have q : y1.heap.size + 1 = y1.heap.size := e; omega)))
                  | (refine step_append_sp rfl _ _ rfl y1.heap.size (.slice (some ⟨y1.heap.size + 1, 0, none⟩) 0 0) 0 [] rfl HEMC.out A cp cp (F.take cp) rfl (HSX.out _ HBC.out) (by omega) HBC.out.size ?_; intro v11 w11 hown hgr _; have HB11 : Hid (Below y1.heap.size y1 w11) := HBC.out.trans ((Below.refl _ _).grown hgr HBC.out.size (fun k e => (HEMC.out.lt k e).1)); have HXE := Lib.hid (sp_grown HXC.out hgr (by intro e; injection e with e; have q : y1.heap.size = y1.heap.size + 1 := e; omega)))); unfold SpO at hown; obtain ⟨A11, k11, rfl⟩ := own_slice hown; have HO11 := Lib.hid hown; rw [Nat.zero_add, List.nil_append] at HO11; obtain ⟨q10, q11, q12, q13, q14, q15, q16⟩ := HQ.out w11 HB11.out; clear hown hgr; try rw [Nat.zero_add]))
            all_goals
              go_wp2
              go_roundw
              case rel => exact ⟨A14, n + 1, c14, rfl, by go_num, by omega, by rw [HP.out]; exact HE.out.1, HE.out.2.1, HE.out.2.2⟩
              case measure => simp only [intOf]; omega
          · rw [if_neg hci] at HS3
            go_wp2_with fail
            go_region_law (first
              | (have qq := HB12; (refine step_append_sp rfl _ _ rfl y1.heap.size (.slice A12 (k + 1) k12) (k + 1) _ rfl HO12.out (A.map fun x => x.add (k * 7)) (n - k) (cp - k) _ rfl (HS3.out w12 HB12.out) (by omega) HB12.out.size ?_); intro v14 w14 hown hgr _; have hb4 := HB12.out.trans ((Below.refl _ _).grown hgr HB12.out.size (fun k e => (HO12.out.lt k e).1)); obtain ⟨A14, c14, rfl, hq14⟩ := HCL.out w14 v14 _ hb4 hown (by omega); have HE := Lib.hid hq14; clear hown hgr hb4 hq14)
              | (have qq := HB11; (first
                  | refine step_append_sp rfl _ _ rfl y1.heap.size (.slice A11 k k11) k _ rfl (HO11.out.alloc _) (some ⟨w11.heap.size, 0, none⟩) 1 1 [x] rfl (HXN.out w11 _ rfl) (by omega) (by have := HB11.out.size; simp; omega) ?_
                  | refine step_append_sp rfl _ _ rfl y1.heap.size (.slice A11 k k11) k _ rfl HO11.out (some ⟨y1.heap.size + 1, 0, none⟩) 1 1 [x] rfl HXE.out (by omega) HB11.out.size ?_
                  | refine step_append_sp rfl _ _ rfl y1.heap.size (.slice A11 k k11) k _ rfl HO11.out (some ⟨y1.heap.size, 0, none⟩) 1 1 [x] rfl HXE.out (by omega) HB11.out.size ?_); intro v12 w12 hown hgr _; unfold SpO at hown; obtain ⟨A12, k12, rfl⟩ := own_slice hown; have HB12 : Hid (Below y1.heap.size y1 w12) := (by first | exact (HB11.out.alloc HB11.out.size _).trans ((Below.refl _ _).grown hgr (by have := HB11.out.size; simp; omega) (fun k e => (HO11.out.lt k e).1)) | exact HB11.out.trans ((Below.refl _ _).grown hgr HB11.out.size (fun k e => (HO11.out.lt k e).1))); have HO12 := Lib.hid hown; clear hown hgr)
              | ((first
                  | (refine step_append_sp rfl _ _ rfl y1.heap.size (.slice (some ⟨y1.drew.heap.size, 0, none⟩) 0 0) 0 [] rfl HEMP.out A k cp (F.take k) rfl (HSX.out _ HBE.out) (by omega) HBE.out.size ?_; intro v11 w11 hown hgr _; have HB11 : Hid (Below y1.heap.size y1 w11) := HBE.out.trans ((Below.refl _ _).grown hgr HBE.out.size (fun k e => (HEMP.out.lt k e).1)))
                  | (refine step_append_sp rfl _ _ rfl y1.heap.size (.slice (some ⟨y1.drew.heap.size, 0, none⟩) 0 0) 0 [] rfl HEMB.out A k cp (F.take k) rfl (HSX.out _ HBB.out) (by omega) HBB.out.size ?_; intro v11 w11 hown hgr _; have HB11 : Hid (Below y1.heap.size y1 w11) := HBB.out.trans ((Below.refl _ _).grown hgr HBB.out.size (fun k e => (HEMB.out.lt k e).1)); have HXE := Lib.hid (sp_grown HXB.out hgr (by intro e; injection e with e; have q : y1.heap.size + 1 = y1.heap.size := e; omega)))
                  | (refine step_append_sp rfl _ _ rfl y1.heap.size (.slice (some ⟨y1.heap.size + 1, 0, none⟩) 0 0) 0 [] rfl HEMC.out A k cp (F.take k) rfl (HSX.out _ HBC.out) (by omega) HBC.out.size ?_; intro v11 w11 hown hgr _; have HB11 : Hid (Below y1.heap.size y1 w11) := HBC.out.trans ((Below.refl _ _).grown hgr HBC.out.size (fun k e => (HEMC.out.lt k e).1)); have HXE := Lib.hid (sp_grown HXC.out hgr (by intro e; injection e with e; have q : y1.heap.size = y1.heap.size + 1 := e; omega)))); unfold SpO at hown; obtain ⟨A11, k11, rfl⟩ := own_slice hown; have HO11 := Lib.hid hown; rw [Nat.zero_add, List.nil_append] at HO11; obtain ⟨q10, q11, q12, q13, q14, q15, q16⟩ := HQ.out w11 HB11.out; clear hown hgr; try rw [Nat.zero_add]))
            all_goals
              go_wp2
              go_roundw
              case rel => exact ⟨A14, n + 1, c14, rfl, by go_num, by omega, by rw [HP.out]; exact HE.out.1, HE.out.2.1, HE.out.2.2⟩
              case measure => simp only [intOf]; omega
        · obtain ⟨p, hp⟩ : ∃ p, k = p + 1 := ⟨k - 1, by omega⟩
          have HPK := Lib.hid hp
          obtain ⟨⟨nm2, y2⟩, hy⟩ := HS.out.get (j := p) (by omega)
          obtain ⟨b2, o2, rfl, hbl2, hc2⟩ := HS.out.at_ (by omega)
          have c0 := (HBQ.out.cell (p := ⟨b2, o2 + p * 7, none⟩) hbl2).trans (hc2 p _ hy 0 _ rfl)
          have hst := upK_step (x := nm) hy
          rw [← hp, HUK.out] at hst
          have hw : IntKind.i64.wrap ((k : Int) - 1) = (p : Int) := by rw [IntWalk.i64_in _ (by omega)]; omega
          have hk0 : (0 : Int) < (k : Int) := by omega
          have hp0 : (0 : Int) ≤ (p : Int) := by omega
          have hpn : (p : Int) < (n : Int) := by omega
          have hpn2 : p < n := by omega
          have hne : ¬ nm2 = nm := HNE.out _ (List.mem_of_getElem? hy)
          have hEq : (nm2 == nm) = false := by simpa using hne
          clear hy hc2 hbl2 hp
          by_cases hlx : nm < nm2
          · rw [if_pos hlx] at hst
            have HST := Lib.hid hst
            have hS : Op.bytesLess nm2 nm = false := by rw [bytesLess_eq]; exact decide_eq_false (tx_asymm hlx)
            clear hst hlx HUK
            go_wp2_with fail
            go_quiet (fail)
            all_goals
              go_wp2
              go_roundw
              case rel => exact ⟨p, by go_num, by omega, HST.out.symm, HBQ.out.trans (below_drewN _ _ _)⟩
              case measure => simp only [intOf]; have := HPK.out; omega
          · rw [if_neg hlx] at hst
            have HUE : Hid (U = k) := hst
            have hS : Op.bytesLess nm2 nm = true := by rw [bytesLess_eq]; exact decide_eq_true ((tx_ge hlx).resolve_left (fun e => hne e.symm))
            clear hst hlx HUK
            go_wp2_with fail
            go_quiet (fail)
            have HB5 : Hid (Below wo.heap.size wo (wr.drewN nq)) := HBQ.out.trans (below_drewN _ _ _)
            have HB7 : Hid (Below w7.heap.size w7 (wr.drewN nq)) := HX7.out.trans (below_drewN _ _ _)
            obtain ⟨y1, hy1⟩ : ∃ z, wr.drewN nq = z := ⟨_, rfl⟩
            rw [hy1] at HB5 HB7 ⊢
            clear hy1
            have hkc : (k : Int) ≤ (cp : Int) := by omega
            have hkn : (k : Int) ≤ (n : Int) := by omega
            have hk00 : (0 : Int) ≤ (k : Int) := by omega
            have hbx : Below y1.heap.size y1 (y1.drew.alloc (.cells #[] 27)) := (Below.refl _ _).drew.alloc (Nat.le_refl _) _
            have hbx2 : Below y1.heap.size y1 (y1.drew.alloc (.cells #[.string ⟨nm.toArray⟩, .int .i64 g, .int .i64 ar, .bool wr_, .int .i64 f, .int .i64 la, .int .i64 st] 27)) := (Below.refl _ _).drew.alloc (Nat.le_refl _) _
            have hsX : (y1.drew.alloc (.cells #[.string ⟨nm.toArray⟩, .int .i64 g, .int .i64 ar, .bool wr_, .int .i64 f, .int .i64 la, .int .i64 st] 27)).heap.size = y1.heap.size + 1 := by rw [World.size_alloc]; rfl
            have hsE : (y1.drew.alloc (.cells #[] 27)).heap.size = y1.heap.size + 1 := by rw [World.size_alloc]; rfl
            have HEMP : Hid ((y1.drew.alloc (.cells #[] 27)).ownsRow y1.heap.size 27 7 (.slice (some ⟨y1.drew.heap.size, 0, none⟩) 0 0) 0 (scells [])) := World.ownsRow_made y1.drew #[] 0 (Nat.le_refl _) (by decide) rfl
            have HEMB : Hid (((y1.drew.alloc (.cells #[] 27)).alloc (.cells #[.string ⟨nm.toArray⟩, .int .i64 g, .int .i64 ar, .bool wr_, .int .i64 f, .int .i64 la, .int .i64 st] 27)).ownsRow y1.heap.size 27 7 (.slice (some ⟨y1.drew.heap.size, 0, none⟩) 0 0) 0 (scells [])) := HEMP.out.alloc _
            have HEMC : Hid (((y1.drew.alloc (.cells #[.string ⟨nm.toArray⟩, .int .i64 g, .int .i64 ar, .bool wr_, .int .i64 f, .int .i64 la, .int .i64 st] 27)).alloc (.cells #[] 27)).ownsRow y1.heap.size 27 7 (.slice (some ⟨y1.heap.size + 1, 0, none⟩) 0 0) 0 (scells [])) := by
              have q := World.ownsRow_made (base := y1.heap.size) (e := 27) (size := 7) (y1.drew.alloc (.cells #[.string ⟨nm.toArray⟩, .int .i64 g, .int .i64 ar, .bool wr_, .int .i64 f, .int .i64 la, .int .i64 st] 27)) #[] 0 (by rw [hsX]; omega) (by decide) rfl
              rw [hsX] at q
              exact q
            have HBE := Lib.hid hbx
            have HBB : Hid (Below y1.heap.size y1 ((y1.drew.alloc (.cells #[] 27)).alloc (.cells #[.string ⟨nm.toArray⟩, .int .i64 g, .int .i64 ar, .bool wr_, .int .i64 f, .int .i64 la, .int .i64 st] 27))) := hbx.alloc hbx.size _
            have HBC : Hid (Below y1.heap.size y1 ((y1.drew.alloc (.cells #[.string ⟨nm.toArray⟩, .int .i64 g, .int .i64 ar, .bool wr_, .int .i64 f, .int .i64 la, .int .i64 st] 27)).alloc (.cells #[] 27))) := hbx2.alloc hbx2.size _
            have HXB : Hid (SpAt ((y1.drew.alloc (.cells #[] 27)).alloc (.cells #[.string ⟨nm.toArray⟩, .int .i64 g, .int .i64 ar, .bool wr_, .int .i64 f, .int .i64 la, .int .i64 st] 27)) (some ⟨y1.heap.size + 1, 0, none⟩) 1 1 [x]) := HXN.out _ _ hsE.symm
            have HXC : Hid (SpAt ((y1.drew.alloc (.cells #[.string ⟨nm.toArray⟩, .int .i64 g, .int .i64 ar, .bool wr_, .int .i64 f, .int .i64 la, .int .i64 st] 27)).alloc (.cells #[] 27)) (some ⟨y1.heap.size, 0, none⟩) 1 1 [x]) := (HXN.out y1.drew y1.heap.size rfl).below ((Below.refl _ _).alloc (Nat.le_refl _) _)
            have HSX := Lib.hid (fun X (hX : Below y1.heap.size y1 X) => (HS.out.below (bup HB5.out hX)).first hk)
            have HS3 := Lib.hid (fun X (hX : Below y1.heap.size y1 X) => (HS.out.below (bup HB5.out hX)).rest hk)
            have HCL : Hid (∀ (w4 : World) (v4 : Value) (mm : Nat), Below y1.heap.size y1 w4 → w4.ownsRow y1.heap.size 27 7 v4 mm (scells (F.take k ++ [x] ++ F.drop k)) → mm = k + 1 + (n - k) → ∃ A' c', v4 = .slice A' (n + 1) c' ∧ SpAt w4 A' (n + 1) c' P ∧ Below w7.heap.size w7 w4 ∧ Frh M A') := fun w4 v4 mm h1 h2 e => by
              have e2 : F.take k ++ [x] ++ F.drop k = P := by rw [← HUE.out]; exact HPE.out
              obtain rfl : mm = n + 1 := by omega
              rw [e2] at h2
              obtain ⟨A', c', q1, q2, q3⟩ := sp_of_own h2
              exact ⟨A', c', q1, q2, bup HB7.out h1, q3.mono (by have q := HB7.out.size; omega)⟩
            have HQ : Hid (∀ X, Below y1.heap.size y1 X → X.cell? ⟨b, o + n * 7, none⟩ = some (.string ⟨nm.toArray⟩) ∧ X.cell? ⟨b, o + n * 7 + 1, none⟩ = some (.int .i64 g) ∧ X.cell? ⟨b, o + n * 7 + 2, none⟩ = some (.int .i64 ar) ∧ X.cell? ⟨b, o + n * 7 + 3, none⟩ = some (.bool wr_) ∧ X.cell? ⟨b, o + n * 7 + 4, none⟩ = some (.int .i64 f) ∧ X.cell? ⟨b, o + n * 7 + 5, none⟩ = some (.int .i64 la) ∧ X.cell? ⟨b, o + n * 7 + 6, none⟩ = some (.int .i64 st)) := fun X hX => HCX.out X (bup HB7.out hX)
            obtain ⟨q20, q21, q22, q23, q24, q25, q26⟩ := HQ.out y1 (Below.refl _ _)
            obtain ⟨q30, q31, q32, q33, q34, q35, q36⟩ := HQ.out y1.drew (Below.refl _ _).drew
            obtain ⟨q40, q41, q42, q43, q44, q45, q46⟩ := HQ.out _ hbx
            obtain ⟨q50, q51, q52, q53, q54, q55, q56⟩ := HQ.out ((y1.alloc (.cells #[] 27)).drew) ((Below.refl _ _).alloc (Nat.le_refl _) _).drew
            clear hbx hbx2 hsX hsE
            by_cases hci : cp = k
            · subst hci
              rw [if_pos rfl] at HS3
              have h00 : n - cp = 0 := by omega
              rw [h00, Nat.sub_self] at HS3
              go_wp2_with fail
              go_region_law (first
                | (have qq := HB12; (refine step_append_sp rfl _ _ rfl y1.heap.size (.slice A12 (cp + 1) k12) (cp + 1) _ rfl HO12.out (some ⟨b2, o2, none⟩) 0 0 _ rfl (HS3.out w12 HB12.out) (by omega) HB12.out.size ?_); intro v14 w14 hown hgr _; have hb4 := HB12.out.trans ((Below.refl _ _).grown hgr HB12.out.size (fun k e => (HO12.out.lt k e).1)); obtain ⟨A14, c14, rfl, hq14⟩ := HCL.out w14 v14 _ hb4 hown (by omega); have HE := Lib.hid hq14; clear hown hgr hb4 hq14)
                | (have qq := HB11; (first
                    | refine step_append_sp rfl _ _ rfl y1.heap.size (.slice A11 cp k11) cp _ rfl (HO11.out.alloc _) (some ⟨w11.heap.size, 0, none⟩) 1 1 [x] rfl (HXN.out w11 _ rfl) (by omega) (by have := HB11.out.size; simp; omega) ?_
                    | refine step_append_sp rfl _ _ rfl y1.heap.size (.slice A11 cp k11) cp _ rfl HO11.out (some ⟨y1.heap.size + 1, 0, none⟩) 1 1 [x] rfl HXE.out (by omega) HB11.out.size ?_
                    | refine step_append_sp rfl _ _ rfl y1.heap.size (.slice A11 cp k11) cp _ rfl HO11.out (some ⟨y1.heap.size, 0, none⟩) 1 1 [x] rfl HXE.out (by omega) HB11.out.size ?_); intro v12 w12 hown hgr _; unfold SpO at hown; obtain ⟨A12, k12, rfl⟩ := own_slice hown; have HB12 : Hid (Below y1.heap.size y1 w12) := (by first | exact (HB11.out.alloc HB11.out.size _).trans ((Below.refl _ _).grown hgr (by have := HB11.out.size; simp; omega) (fun k e => (HO11.out.lt k e).1)) | exact HB11.out.trans ((Below.refl _ _).grown hgr HB11.out.size (fun k e => (HO11.out.lt k e).1))); have HO12 := Lib.hid hown; clear hown hgr)
                | ((first
                    | (refine step_append_sp rfl _ _ rfl y1.heap.size (.slice (some ⟨y1.drew.heap.size, 0, none⟩) 0 0) 0 [] rfl HEMP.out (some ⟨b2, o2, none⟩) cp cp (F.take cp) rfl (HSX.out _ HBE.out) (by omega) HBE.out.size ?_; intro v11 w11 hown hgr _; have HB11 : Hid (Below y1.heap.size y1 w11) := HBE.out.trans ((Below.refl _ _).grown hgr HBE.out.size (fun k e => (HEMP.out.lt k e).1)))
                    | (refine step_append_sp rfl _ _ rfl y1.heap.size (.slice (some ⟨y1.drew.heap.size, 0, none⟩) 0 0) 0 [] rfl HEMB.out (some ⟨b2, o2, none⟩) cp cp (F.take cp) rfl (HSX.out _ HBB.out) (by omega) HBB.out.size ?_; intro v11 w11 hown hgr _; have HB11 : Hid (Below y1.heap.size y1 w11) := HBB.out.trans ((Below.refl _ _).grown hgr HBB.out.size (fun k e => (HEMB.out.lt k e).1)); have HXE := Lib.hid (sp_grown HXB.out hgr (by intro e; injection e with e; have q : y1.heap.size + 1 = y1.heap.size := e; omega)))
                    | (refine step_append_sp rfl _ _ rfl y1.heap.size (.slice (some ⟨y1.heap.size + 1, 0, none⟩) 0 0) 0 [] rfl HEMC.out (some ⟨b2, o2, none⟩) cp cp (F.take cp) rfl (HSX.out _ HBC.out) (by omega) HBC.out.size ?_; intro v11 w11 hown hgr _; have HB11 : Hid (Below y1.heap.size y1 w11) := HBC.out.trans ((Below.refl _ _).grown hgr HBC.out.size (fun k e => (HEMC.out.lt k e).1)); have HXE := Lib.hid (sp_grown HXC.out hgr (by intro e; injection e with e; have q : y1.heap.size = y1.heap.size + 1 := e; omega)))); unfold SpO at hown; obtain ⟨A11, k11, rfl⟩ := own_slice hown; have HO11 := Lib.hid hown; rw [Nat.zero_add, List.nil_append] at HO11; obtain ⟨q10, q11, q12, q13, q14, q15, q16⟩ := HQ.out w11 HB11.out; clear hown hgr; try rw [Nat.zero_add]))
              all_goals
                go_wp2
                go_roundw
                case rel => exact ⟨A14, n + 1, c14, rfl, by go_num, by omega, by rw [HP.out]; exact HE.out.1, HE.out.2.1, HE.out.2.2⟩
                case measure => simp only [intOf]; omega
            · rw [if_neg hci] at HS3
              have hadd : (some (⟨b2, o2, none⟩ : Addr)).map (fun x => x.add (k * 7)) = some ⟨b2, o2 + k * 7, none⟩ := by simp [Addr.add] <;> omega
              rw [hadd] at HS3
              clear hadd
              go_wp2_with fail
              go_region_law (first
                | (have qq := HB12; (refine step_append_sp rfl _ _ rfl y1.heap.size (.slice A12 (k + 1) k12) (k + 1) _ rfl HO12.out (some ⟨b2, o2 + k * 7, none⟩) (n - k) (cp - k) _ rfl (HS3.out w12 HB12.out) (by omega) HB12.out.size ?_); intro v14 w14 hown hgr _; have hb4 := HB12.out.trans ((Below.refl _ _).grown hgr HB12.out.size (fun k e => (HO12.out.lt k e).1)); obtain ⟨A14, c14, rfl, hq14⟩ := HCL.out w14 v14 _ hb4 hown (by omega); have HE := Lib.hid hq14; clear hown hgr hb4 hq14)
                | (have qq := HB11; (first
                    | refine step_append_sp rfl _ _ rfl y1.heap.size (.slice A11 k k11) k _ rfl (HO11.out.alloc _) (some ⟨w11.heap.size, 0, none⟩) 1 1 [x] rfl (HXN.out w11 _ rfl) (by omega) (by have := HB11.out.size; simp; omega) ?_
                    | refine step_append_sp rfl _ _ rfl y1.heap.size (.slice A11 k k11) k _ rfl HO11.out (some ⟨y1.heap.size + 1, 0, none⟩) 1 1 [x] rfl HXE.out (by omega) HB11.out.size ?_
                    | refine step_append_sp rfl _ _ rfl y1.heap.size (.slice A11 k k11) k _ rfl HO11.out (some ⟨y1.heap.size, 0, none⟩) 1 1 [x] rfl HXE.out (by omega) HB11.out.size ?_); intro v12 w12 hown hgr _; unfold SpO at hown; obtain ⟨A12, k12, rfl⟩ := own_slice hown; have HB12 : Hid (Below y1.heap.size y1 w12) := (by first | exact (HB11.out.alloc HB11.out.size _).trans ((Below.refl _ _).grown hgr (by have := HB11.out.size; simp; omega) (fun k e => (HO11.out.lt k e).1)) | exact HB11.out.trans ((Below.refl _ _).grown hgr HB11.out.size (fun k e => (HO11.out.lt k e).1))); have HO12 := Lib.hid hown; clear hown hgr)
                | ((first
                    | (refine step_append_sp rfl _ _ rfl y1.heap.size (.slice (some ⟨y1.drew.heap.size, 0, none⟩) 0 0) 0 [] rfl HEMP.out (some ⟨b2, o2, none⟩) k cp (F.take k) rfl (HSX.out _ HBE.out) (by omega) HBE.out.size ?_; intro v11 w11 hown hgr _; have HB11 : Hid (Below y1.heap.size y1 w11) := HBE.out.trans ((Below.refl _ _).grown hgr HBE.out.size (fun k e => (HEMP.out.lt k e).1)))
                    | (refine step_append_sp rfl _ _ rfl y1.heap.size (.slice (some ⟨y1.drew.heap.size, 0, none⟩) 0 0) 0 [] rfl HEMB.out (some ⟨b2, o2, none⟩) k cp (F.take k) rfl (HSX.out _ HBB.out) (by omega) HBB.out.size ?_; intro v11 w11 hown hgr _; have HB11 : Hid (Below y1.heap.size y1 w11) := HBB.out.trans ((Below.refl _ _).grown hgr HBB.out.size (fun k e => (HEMB.out.lt k e).1)); have HXE := Lib.hid (sp_grown HXB.out hgr (by intro e; injection e with e; have q : y1.heap.size + 1 = y1.heap.size := e; omega)))
                    | (refine step_append_sp rfl _ _ rfl y1.heap.size (.slice (some ⟨y1.heap.size + 1, 0, none⟩) 0 0) 0 [] rfl HEMC.out (some ⟨b2, o2, none⟩) k cp (F.take k) rfl (HSX.out _ HBC.out) (by omega) HBC.out.size ?_; intro v11 w11 hown hgr _; have HB11 : Hid (Below y1.heap.size y1 w11) := HBC.out.trans ((Below.refl _ _).grown hgr HBC.out.size (fun k e => (HEMC.out.lt k e).1)); have HXE := Lib.hid (sp_grown HXC.out hgr (by intro e; injection e with e; have q : y1.heap.size = y1.heap.size + 1 := e; omega)))); unfold SpO at hown; obtain ⟨A11, k11, rfl⟩ := own_slice hown; have HO11 := Lib.hid hown; rw [Nat.zero_add, List.nil_append] at HO11; obtain ⟨q10, q11, q12, q13, q14, q15, q16⟩ := HQ.out w11 HB11.out; clear hown hgr; try rw [Nat.zero_add]))
              all_goals
                go_wp2
                go_roundw
                case rel => exact ⟨A14, n + 1, c14, rfl, by go_num, by omega, by rw [HP.out]; exact HE.out.1, HE.out.2.1, HE.out.2.2⟩
                case measure => simp only [intOf]; omega
    · obtain rfl : n = 99 := by omega
      have HE : Hid (SpAt wo A 99 cp byN) := by unfold Hid; rw [← foldI_all]; exact HS.out
      have HBE : Hid (Below M w wo) := HW7.out.trans (HB.out.mono (by have q := HW7.out.size; have := HM.out; omega))
      go_wp2
      go_ret
      exact ⟨_, _, rfl, HE.out, HBE.out, hfr⟩

end Go.Proofs.Ytinpimejiepahaa
