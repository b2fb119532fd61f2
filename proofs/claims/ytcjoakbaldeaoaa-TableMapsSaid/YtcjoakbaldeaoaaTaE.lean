/-
  The walk of the document's own find. Conditions: the table's rows lie in memory as they read.
-/
import Derived.Test.YtcjoakbaldeaoaaTaD
namespace Go.Proofs.Ytcjoakbaldeaoaa
open Go.RowKit

/-- Where a bucket lies: its slice's address and capacity, the block and place of its items. -/
structure Spot where
  A : Option Addr
  g : Nat
  o : Nat
  c : Nat

/-- A row of buckets. -/
structure RowAt (w : World) (A : Option Addr) (g c : Nat) (R : List (List (List UInt8 × Int))) (sp : Nat → Spot) : Prop where
  le : R.length ≤ c
  max : c ≤ 9223372036854775807
  at_ : 0 < R.length → A = some ⟨g, 0, none⟩ ∧ g < w.heap.size
  cell : ∀ (i : Nat) (l : List (List UInt8 × Int)), R[i]? = some l → w.cell? ⟨g, i, none⟩ = some (.slice (sp i).A l.length (sp i).c) ∧ BktAt w (sp i).A (sp i).g (sp i).o (sp i).c l

theorem RowAt.below {w w' : World} {A : Option Addr} {g c : Nat} {R : List (List (List UInt8 × Int))} {sp : Nat → Spot} (h : RowAt w A g c R sp) (hb : Below w.heap.size w w') : RowAt w' A g c R sp :=
  ⟨h.le, h.max, fun hl => ⟨(h.at_ hl).1, Nat.lt_of_lt_of_le (h.at_ hl).2 hb.size⟩, fun i l hl => by
    have hg := (h.at_ (by have := (List.getElem?_eq_some_iff.1 hl).1; omega)).2
    obtain ⟨h1, h2⟩ := h.cell i l hl
    exact ⟨(hb.cell (p := ⟨g, i, none⟩) hg).trans h1, h2.below hb⟩⟩

/-- The document's table in block Q. -/
structure TbAt (w : World) (Q seed : Nat) (t : Tb Int) (A : Option Addr) (gA cA : Nat) (sA : Nat → Spot) (B : Option Addr) (gB cB : Nat) (sB : Nat → Spot) : Prop where
  c0 : w.cell? ⟨Q, 0, none⟩ = some (.int .u64 seed)
  c1 : w.cell? ⟨Q, 1, none⟩ = some (.slice A t.A.length cA)
  c2 : w.cell? ⟨Q, 2, none⟩ = some (.slice B t.B.length cB)
  c3 : w.cell? ⟨Q, 3, none⟩ = some (.int .i64 t.moved)
  c4 : w.cell? ⟨Q, 4, none⟩ = some (.int .i64 t.n)
  a : RowAt w A gA cA t.A sA
  b : RowAt w B gB cB t.B sB

theorem TbAt.below {w w' : World} {Q seed : Nat} {t : Tb Int} {A : Option Addr} {gA cA : Nat} {sA : Nat → Spot} {B : Option Addr} {gB cB : Nat} {sB : Nat → Spot} (h : TbAt w Q seed t A gA cA sA B gB cB sB) (hb : Below w.heap.size w w') : TbAt w' Q seed t A gA cA sA B gB cB sB := by
  have hQ := World.block_lt_of_cell? w _ h.c0
  exact ⟨(hb.cell (p := ⟨Q, 0, none⟩) hQ).trans h.c0, (hb.cell (p := ⟨Q, 1, none⟩) hQ).trans h.c1, (hb.cell (p := ⟨Q, 2, none⟩) hQ).trans h.c2, (hb.cell (p := ⟨Q, 3, none⟩) hQ).trans h.c3, (hb.cell (p := ⟨Q, 4, none⟩) hQ).trans h.c4, h.a.below hb, h.b.below hb⟩

/-- What find tells: the row (below 0: none), the bucket, the place. -/
def findT (seed : Nat) (t : Tb Int) (k : List UInt8) : Int × Nat × Int :=
  if 0 ≤ idxL (t.A.getD (hashT seed k % t.A.length) []) k then (0, hashT seed k % t.A.length, idxL (t.A.getD (hashT seed k % t.A.length) []) k)
  else if 0 < t.B.length ∧ 0 ≤ idxL (t.B.getD (hashT seed k % t.B.length) []) k then (1, hashT seed k % t.B.length, idxL (t.B.getD (hashT seed k % t.B.length) []) k)
  else (-1, 0, 0)

set_option maxRecDepth 100000 in
set_option maxHeartbeats 8000000 in
theorem rfind_any {Q seed : Nat} {t : Tb Int} {A : Option Addr} {gA cA : Nat} {sA : Nat → Spot} {B : Option Addr} {gB cB : Nat} {sB : Nat → Spot} (hs : seed < 18446744073709551616) (k : List UInt8) (K : ByteArray) (hK : K.data.toList = k) (hK63 : K.size ≤ 9223372036854775807) (w : World) (h : TbAt w Q seed t A gA cA sA B gB cB sB) (hpos : 0 < t.A.length) :
    Calls Try.prog 79 #[.pointer (some ⟨Q, 0, none⟩), .string K] w fun e w' => e = .returned (.tuple #[.int .i64 (findT seed t k).1, .int .i64 (findT seed t k).2.1, .int .i64 (findT seed t k).2.2]) ∧ Below w.heap.size w w' := by
  have hmaxA := h.a.max
  have hleA := h.a.le
  have hmaxB := h.b.max
  have hleB := h.b.le
  have HT := Lib.hid h
  have HK := Lib.hid hK
  obtain ⟨rfl, hgA⟩ := h.a.at_ hpos
  have c0 := h.c0
  have c1 := h.c1
  have c2 := h.c2
  obtain ⟨na, hna⟩ : ∃ n, t.A.length = n := ⟨_, rfl⟩
  obtain ⟨nb, hnb⟩ : ∃ n, t.B.length = n := ⟨_, rfl⟩
  have HBA := Lib.hid (rbucket_any Q seed na hs (by omega) (by omega) K w c0 hK63)
  have HBB := Lib.hid (fun (h1 : 1 ≤ nb) w' (hc : w'.cell? ⟨Q, 0, none⟩ = some (.int .u64 seed)) => rbucket_any Q seed nb hs h1 (by omega) K w' hc hK63)
  rw [hK] at HBA HBB
  have HF : Hid (findT seed t k = if 0 ≤ idxL (t.A.getD (hashT seed k % na) []) k then (0, hashT seed k % na, idxL (t.A.getD (hashT seed k % na) []) k)
    else if 0 < nb ∧ 0 ≤ idxL (t.B.getD (hashT seed k % nb) []) k then (1, hashT seed k % nb, idxL (t.B.getD (hashT seed k % nb) []) k) else (-1, 0, 0)) := by unfold Hid findT; rw [hna, hnb]
  obtain ⟨z, hz⟩ : ∃ z, hashT seed k = z := ⟨_, rfl⟩
  rw [hz] at HBA HBB HF
  have hq : z % na < na := Nat.mod_lt _ (by omega)
  have hqb : 0 < nb → z % nb < nb := fun h => Nat.mod_lt _ h
  rw [hna] at c1
  rw [hnb] at c2
  have hA : t.A[z % na]? = some (t.A.getD (z % na) []) := getD_lt (by omega)
  obtain ⟨la, hla⟩ : ∃ l, t.A.getD (z % na) [] = l := ⟨_, rfl⟩
  rw [hla] at hA HF
  obtain ⟨ra, hra⟩ : ∃ r, z % na = r := ⟨_, rfl⟩
  rw [hra] at hA hq HBA HF
  obtain ⟨lb, hlb⟩ : ∃ l, t.B.getD (z % nb) [] = l := ⟨_, rfl⟩
  have hBs : 0 < nb → t.B[z % nb]? = some lb := fun h0 => by rw [← hlb]; exact getD_lt (by have := hqb h0; omega)
  rw [hlb] at HF
  obtain ⟨rb, hrb⟩ : ∃ r, z % nb = r := ⟨_, rfl⟩
  rw [hrb] at hBs hqb HBB HF
  have HINA := Lib.hid (fun w' (hb : Below w.heap.size w w') => rin_any (sA ra).A (sA ra).g (sA ra).o (sA ra).c la k K hK w' ((h.a.cell ra la hA).2.below hb))
  have HINB := Lib.hid (fun (h0 : 0 < nb) w' (hb : Below w.heap.size w w') => rin_any (sB rb).A (sB rb).g (sB rb).o (sB rb).c lb k K hK w' ((h.b.cell rb lb (hBs h0)).2.below hb))
  have HCA := Lib.hid (h.a.cell ra la hA).1
  have HCB := Lib.hid (fun h0 => (h.b.cell rb lb (hBs h0)).1)
  have HAB := Lib.hid h.b.at_
  have hQ := World.block_lt_of_cell? w _ c0
  obtain ⟨ia, hia⟩ : ∃ i, idxL la k = i := ⟨_, rfl⟩
  obtain ⟨ib, hib⟩ : ∃ i, idxL lb k = i := ⟨_, rfl⟩
  rw [hia] at HINA HF
  rw [hib] at HINB HF
  have HNB := Lib.hid hnb
  rw [HF.out]
  generalize (sA ra).A = sAA at HINA HCA
  generalize (sA ra).c = sAc at HINA HCA
  generalize (sB rb).A = sBA at HINB HCB
  generalize (sB rb).c = sBc at HINB HCB
  clear h hK hz hna hnb hA hla hra hlb hBs hrb hia hib HF HT
  by_cases h1 : 0 ≤ ia
  · rw [if_pos h1]
    go_enter Try.func79, Try.ntmps79
    go_wp2_with fail
    refine HBA.out.mono ?_
    rintro e w1 ⟨rfl, hb1⟩
    have HB1 := Lib.hid hb1
    have d1 := (hb1.cell (p := ⟨Q, 1, none⟩) hQ).trans c1
    have e1 := (hb1.cell (p := ⟨gA, ra, none⟩) hgA).trans HCA.out
    clear hb1
    go_wp2_with fail
    refine (HINA.out w1 HB1.out).mono ?_
    rintro e w2 ⟨rfl, hb2⟩
    have HB2 := Lib.hid (HB1.out.trans (hb2.mono HB1.out.size))
    clear hb2 d1 e1
    go_wp2
    exact bodyPost_ret (v := .tuple #[.int .i64 0, .int .i64 ra, .int .i64 ia]) (by simp [results, Try.results79, go_sem]) rfl ⟨rfl, HB2.out⟩
  · rw [if_neg h1]
    by_cases h0 : 0 < nb
    · obtain ⟨rfl, hgB⟩ := HAB.out (by rw [HNB.out]; exact h0)
      have hqb := hqb h0
      have hk0 := fun w' (hb : Below w.heap.size w w') => HBB.out h0 w' ((hb.cell (p := ⟨Q, 0, none⟩) hQ).trans c0)
      have HK0 := Lib.hid hk0
      have HCB0 := Lib.hid (HCB.out h0)
      have HINB0 := Lib.hid (HINB.out h0)
      clear hk0
      by_cases h2 : 0 ≤ ib
      · rw [if_pos ⟨h0, h2⟩]
        go_enter Try.func79, Try.ntmps79
        go_wp2_with fail
        refine HBA.out.mono ?_
        rintro e w1 ⟨rfl, hb1⟩
        have HB1 := Lib.hid hb1
        have d1 := (hb1.cell (p := ⟨Q, 1, none⟩) hQ).trans c1
        have e1 := (hb1.cell (p := ⟨gA, ra, none⟩) hgA).trans HCA.out
        clear hb1
        go_wp2_with fail
        refine (HINA.out w1 HB1.out).mono ?_
        rintro e w2 ⟨rfl, hb2⟩
        have HB2 := Lib.hid (HB1.out.trans (hb2.mono HB1.out.size))
        have d2 := (HB2.out.cell (p := ⟨Q, 2, none⟩) hQ).trans c2
        clear hb2 d1 e1
        go_wp2_with fail
        refine (HK0.out w2 HB2.out).mono ?_
        rintro e w3 ⟨rfl, hb3⟩
        have HB3 := Lib.hid (HB2.out.trans (hb3.mono HB2.out.size))
        have d3 := (HB3.out.cell (p := ⟨Q, 2, none⟩) hQ).trans c2
        have e3 := (HB3.out.cell (p := ⟨gB, rb, none⟩) hgB).trans HCB0.out
        clear hb3 d2
        go_wp2_with fail
        refine (HINB0.out w3 HB3.out).mono ?_
        rintro e w4 ⟨rfl, hb4⟩
        have HB4 := Lib.hid (HB3.out.trans (hb4.mono HB3.out.size))
        clear hb4 d3 e3
        go_wp2
        exact bodyPost_ret (v := .tuple #[.int .i64 1, .int .i64 rb, .int .i64 ib]) (by simp [results, Try.results79, go_sem]) rfl ⟨rfl, HB4.out⟩
      · rw [if_neg (fun q => h2 q.2)]
        go_enter Try.func79, Try.ntmps79
        go_wp2_with fail
        refine HBA.out.mono ?_
        rintro e w1 ⟨rfl, hb1⟩
        have HB1 := Lib.hid hb1
        have d1 := (hb1.cell (p := ⟨Q, 1, none⟩) hQ).trans c1
        have e1 := (hb1.cell (p := ⟨gA, ra, none⟩) hgA).trans HCA.out
        clear hb1
        go_wp2_with fail
        refine (HINA.out w1 HB1.out).mono ?_
        rintro e w2 ⟨rfl, hb2⟩
        have HB2 := Lib.hid (HB1.out.trans (hb2.mono HB1.out.size))
        have d2 := (HB2.out.cell (p := ⟨Q, 2, none⟩) hQ).trans c2
        clear hb2 d1 e1
        go_wp2_with fail
        refine (HK0.out w2 HB2.out).mono ?_
        rintro e w3 ⟨rfl, hb3⟩
        have HB3 := Lib.hid (HB2.out.trans (hb3.mono HB2.out.size))
        have d3 := (HB3.out.cell (p := ⟨Q, 2, none⟩) hQ).trans c2
        have e3 := (HB3.out.cell (p := ⟨gB, rb, none⟩) hgB).trans HCB0.out
        clear hb3 d2
        go_wp2_with fail
        refine (HINB0.out w3 HB3.out).mono ?_
        rintro e w4 ⟨rfl, hb4⟩
        have HB4 := Lib.hid (HB3.out.trans (hb4.mono HB3.out.size))
        clear hb4 d3 e3
        go_wp2
        exact bodyPost_ret (v := .tuple #[.int .i64 (-1), .int .i64 0, .int .i64 0]) (by simp [results, Try.results79, go_sem]) rfl ⟨rfl, HB4.out⟩
    · rw [if_neg (fun q => h0 q.1)]
      obtain rfl : nb = 0 := by omega
      go_enter Try.func79, Try.ntmps79
      go_wp2_with fail
      refine HBA.out.mono ?_
      rintro e w1 ⟨rfl, hb1⟩
      have HB1 := Lib.hid hb1
      have d1 := (hb1.cell (p := ⟨Q, 1, none⟩) hQ).trans c1
      have e1 := (hb1.cell (p := ⟨gA, ra, none⟩) hgA).trans HCA.out
      clear hb1
      go_wp2_with fail
      refine (HINA.out w1 HB1.out).mono ?_
      rintro e w2 ⟨rfl, hb2⟩
      have HB2 := Lib.hid (HB1.out.trans (hb2.mono HB1.out.size))
      have d2 := (HB2.out.cell (p := ⟨Q, 2, none⟩) hQ).trans c2
      clear hb2 d1 e1
      go_wp2
      exact bodyPost_ret (v := .tuple #[.int .i64 (-1), .int .i64 0, .int .i64 0]) (by simp [results, Try.results79, go_sem]) rfl ⟨rfl, HB2.out⟩

end Go.Proofs.Ytcjoakbaldeaoaa
