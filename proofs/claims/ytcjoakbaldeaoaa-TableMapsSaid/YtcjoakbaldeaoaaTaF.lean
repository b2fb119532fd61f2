/-
  The walk of the document's own Look. Conditions: the table's rows lie in memory as they read.
-/
import Derived.Test.YtcjoakbaldeaoaaTaE
namespace Go.Proofs.Ytcjoakbaldeaoaa
open Go.RowKit

theorem seekL_idx {l : List (List UInt8 × Int)} {k : List UInt8} : (idxL l k = -1 ∧ seekL l k = none) ∨ ∃ (i : Nat) (x : List UInt8 × Int), idxL l k = i ∧ l[i]? = some x ∧ seekL l k = some x.2 := by
  rcases idxL_cases k l with ⟨h1, h2⟩ | ⟨i, x, h1, h2, h3, h4⟩
  · exact Or.inl ⟨h1, seekL_none.2 h2⟩
  · refine Or.inr ⟨i, x, h1, h2, ?_⟩
    clear h1
    induction l generalizing i with
    | nil => simp at h2
    | cons y l ih =>
      cases i with
      | zero =>
        simp at h2
        subst h2
        unfold seekL
        rw [List.find?_cons_of_pos (by simpa using h3)]
        rfl
      | succ i =>
        have hy := h4 0 y (by omega) rfl
        have := ih i (by simpa using h2) (fun j z hj hz => h4 (j + 1) z (by omega) (by simpa using hz))
        unfold seekL at this ⊢
        rw [List.find?_cons_of_neg (by simpa using hy)]
        exact this

/-- What Look tells. -/
def lookV (o : Option Int) : Int × Bool := match o with
  | some v => (v, true)
  | none => (0, false)

set_option maxRecDepth 100000 in
set_option maxHeartbeats 8000000 in
theorem rlook_any {Q seed : Nat} {t : Tb Int} {A : Option Addr} {gA cA : Nat} {sA : Nat → Spot} {B : Option Addr} {gB cB : Nat} {sB : Nat → Spot} (hs : seed < 18446744073709551616) (k : List UInt8) (K : ByteArray) (hK : K.data.toList = k) (hK63 : K.size ≤ 9223372036854775807) (w : World) (h : TbAt w Q seed t A gA cA sA B gB cB sB) (hpos : 0 < t.A.length) :
    Calls Try.prog 48 #[.pointer (some ⟨Q, 0, none⟩), .string K] w fun e w' => e = .returned (.tuple #[.int .i64 (lookV (lookT (hashT seed) t k)).1, .bool (lookV (lookT (hashT seed) t k)).2]) ∧ Below w.heap.size w w' := by
  have HF := Lib.hid (rfind_any hs k K hK hK63 w h hpos)
  have hra : hashT seed k % t.A.length < t.A.length := Nat.mod_lt _ hpos
  have hA := getD_lt hra
  have hQ := World.block_lt_of_cell? w _ h.c0
  have HT := Lib.hid h
  unfold findT at HF
  have HLK : Hid (lookT (hashT seed) t k = match seekL (t.A.getD (hashT seed k % t.A.length) []) k with | some v => some v | none => seekR (hashT seed) t.B k) := by
    unfold Hid lookT
    rw [show seekR (hashT seed) t.A k = seekL (t.A.getD (hashT seed k % t.A.length) []) k from rfl]
    cases seekL (t.A.getD (hashT seed k % t.A.length) []) k <;> rfl
  rcases seekL_idx (l := t.A.getD (hashT seed k % t.A.length) []) (k := k) with ⟨i1, s1⟩ | ⟨i, x, i1, hx, s1⟩
  · rw [if_neg (by rw [i1]; decide)] at HF
    rw [s1] at HLK
    by_cases hB0 : 0 < t.B.length
    · have hrb : hashT seed k % t.B.length < t.B.length := Nat.mod_lt _ hB0
      have hBg := getD_lt hrb
      have e2 : seekR (hashT seed) t.B k = seekL (t.B.getD (hashT seed k % t.B.length) []) k := rfl
      rw [e2] at HLK
      rcases seekL_idx (l := t.B.getD (hashT seed k % t.B.length) []) (k := k) with ⟨j1, s2⟩ | ⟨j, y, j1, hy, s2⟩
      · rw [if_neg (by rw [j1]; exact fun q => absurd q.2 (by decide))] at HF
        rw [s2] at HLK
        rw [HLK.out]
        dsimp only [lookV]
        dsimp only at HF
        clear HLK
        go_enter Try.func48, Try.ntmps48
        go_wp2_with fail
        refine HF.out.mono ?_
        rintro e w1 ⟨rfl, hb1⟩
        have HB1 := Lib.hid hb1
        clear hb1
        go_wp2
        go_ret2
        exact ⟨rfl, HB1.out⟩
      · rw [if_pos ⟨hB0, by rw [j1]; omega⟩, j1] at HF
        rw [s2] at HLK
        rw [HLK.out]
        dsimp only [lookV]
        dsimp only at HF
        obtain ⟨rb, hrbe⟩ : ∃ r, hashT seed k % t.B.length = r := ⟨_, rfl⟩
        rw [hrbe] at HF hBg hy hrb
        obtain ⟨lb, hlb⟩ : ∃ l, t.B.getD rb [] = l := ⟨_, rfl⟩
        rw [hlb] at hBg hy
        obtain ⟨hcell, hbk⟩ := h.b.cell rb lb hBg
        obtain ⟨rfl, hgB⟩ := h.b.at_ hB0
        have hjl : j < lb.length := (List.getElem?_eq_some_iff.1 hy).1
        obtain ⟨hsb, hgs⟩ := hbk.at_ (by omega)
        obtain ⟨_, hv⟩ := hbk.items j y hy
        rw [hsb] at hcell
        have c2 := h.c2
        have hmaxB := h.b.max
        have hleB := h.b.le
        have hbl := hbk.le
        have hbm := hbk.max
        obtain ⟨nb, hnb⟩ : ∃ n, t.B.length = n := ⟨_, rfl⟩
        rw [hnb] at c2 hrb hleB
        obtain ⟨ln, hln⟩ : ∃ n, lb.length = n := ⟨_, rfl⟩
        rw [hln] at hcell hjl hbl
        have C2 := Lib.hid c2
        have HC := Lib.hid hcell
        have HV := Lib.hid hv
        clear HLK h HT hcell hbk hy hv hlb hln hnb hBg hrbe
        go_enter Try.func48, Try.ntmps48
        go_wp2_with fail
        refine HF.out.mono ?_
        rintro e w1 ⟨rfl, hb1⟩
        have d2 := (hb1.cell (p := ⟨Q, 2, none⟩) hQ).trans C2.out
        have e2' := (hb1.cell (p := ⟨gB, rb, none⟩) hgB).trans HC.out
        have v2 := (hb1.cell (p := ⟨(sB rb).g, (sB rb).o + j * 2 + 1, none⟩) hgs).trans HV.out
        have HB1 := Lib.hid hb1
        clear hb1
        go_wp2
        go_ret2
        exact ⟨rfl, HB1.out⟩
    · rw [if_neg (fun q => hB0 q.1)] at HF
      have e2 : seekR (hashT seed) t.B k = none := by rw [List.length_eq_zero_iff.1 (Nat.eq_zero_of_not_pos hB0), seekR_nil]
      rw [e2] at HLK
      rw [HLK.out]
      dsimp only [lookV]
      dsimp only at HF
      clear HLK
      go_enter Try.func48, Try.ntmps48
      go_wp2_with fail
      refine HF.out.mono ?_
      rintro e w1 ⟨rfl, hb1⟩
      have HB1 := Lib.hid hb1
      clear hb1
      go_wp2
      go_ret2
      exact ⟨rfl, HB1.out⟩
  · rw [if_pos (by rw [i1]; omega), i1] at HF
    rw [s1] at HLK
    rw [HLK.out]
    dsimp only [lookV]
    dsimp only at HF
    obtain ⟨ra, hrae⟩ : ∃ r, hashT seed k % t.A.length = r := ⟨_, rfl⟩
    rw [hrae] at HF hA hx hra
    obtain ⟨la, hla⟩ : ∃ l, t.A.getD ra [] = l := ⟨_, rfl⟩
    rw [hla] at hA hx
    obtain ⟨hcell, hbk⟩ := h.a.cell ra la hA
    obtain ⟨rfl, hgA⟩ := h.a.at_ hpos
    have hjl : i < la.length := (List.getElem?_eq_some_iff.1 hx).1
    obtain ⟨hsb, hgs⟩ := hbk.at_ (by omega)
    obtain ⟨_, hv⟩ := hbk.items i x hx
    rw [hsb] at hcell
    have c1 := h.c1
    have hmaxA := h.a.max
    have hleA := h.a.le
    have hbl := hbk.le
    have hbm := hbk.max
    obtain ⟨nb, hnb⟩ : ∃ n, t.A.length = n := ⟨_, rfl⟩
    rw [hnb] at c1 hra hleA
    obtain ⟨ln, hln⟩ : ∃ n, la.length = n := ⟨_, rfl⟩
    rw [hln] at hcell hjl hbl
    have C1 := Lib.hid c1
    have HC := Lib.hid hcell
    have HV := Lib.hid hv
    clear HLK h HT hcell hbk hx hv hla hln hnb hA hrae
    go_enter Try.func48, Try.ntmps48
    go_wp2_with fail
    refine HF.out.mono ?_
    rintro e w1 ⟨rfl, hb1⟩
    have d1 := (hb1.cell (p := ⟨Q, 1, none⟩) hQ).trans C1.out
    have e1' := (hb1.cell (p := ⟨gA, ra, none⟩) hgA).trans HC.out
    have v1 := (hb1.cell (p := ⟨(sA ra).g, (sA ra).o + i * 2 + 1, none⟩) hgs).trans HV.out
    have HB1 := Lib.hid hb1
    clear hb1
    go_wp2
    go_ret2
    exact ⟨rfl, HB1.out⟩

end Go.Proofs.Ytcjoakbaldeaoaa
