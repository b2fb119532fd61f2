/-
  Rows of rows of texts in memory, one cell a row; package members' checkAll, union, Union; the document's sets, Union. Conditions: the rows lie in memory.
-/
import Derived.Test.YtkobhlhkkpnmkaaMbG
import Derived.Test.YtkobhlhkkpnmkaaMbF
namespace Go.Proofs.Ytkobhlhkkpnmkaa
open Go.RowKit

/-- A row as a slice. -/
structure Rw where
  A : Option Addr
  n : Nat
  c : Nat
  L : List Tx

/-- A slice that reads as rows of texts. -/
structure TtAt (w : World) (A : Option Addr) (n c : Nat) (S : List Rw) : Prop where
  len : S.length = n
  le : n ≤ c
  max : c ≤ 9223372036854775807
  bare : A = none → c = 0
  rows : ∀ r ∈ S, TxAt w r.A r.n r.c r.L
  at_ : 0 < n → ∃ b o, A = some ⟨b, o, none⟩ ∧ b < w.heap.size ∧ ∀ j r, S[j]? = some r → w.cell? ⟨b, o + j, none⟩ = some (.slice r.A r.n r.c)

section
variable {w w' : World} {A : Option Addr} {n c : Nat} {S : List Rw}

theorem TtAt.below (h : TtAt w A n c S) (hb : Below w.heap.size w w') : TtAt w' A n c S :=
  ⟨h.len, h.le, h.max, h.bare, fun r hr => (h.rows r hr).below hb, fun hn => by
    obtain ⟨b, o, e, hlt, hc⟩ := h.at_ hn
    exact ⟨b, o, e, Nat.lt_of_lt_of_le hlt hb.size, fun j r hr => (hb.cell (p := ⟨b, o + j, none⟩) hlt).trans (hc j r hr)⟩⟩
theorem TtAt.nil (w : World) : TtAt w none 0 0 [] := ⟨rfl, Nat.le_refl _, by omega, fun _ => rfl, (fun r h => by cases h), fun h => absurd h (Nat.lt_irrefl 0)⟩
theorem TtAt.get (h : TtAt w A n c S) {j : Nat} (hj : j < n) : ∃ r, S[j]? = some r := ⟨_, List.getElem?_eq_getElem (by rw [h.len]; exact hj)⟩
theorem TtAt.row (h : TtAt w A n c S) {j : Nat} {r : Rw} (hr : S[j]? = some r) : TxAt w r.A r.n r.c r.L := h.rows r (List.mem_of_getElem? hr)
theorem TtAt.first (h : TtAt w A n c S) {k : Nat} (hk : k ≤ n) : TtAt w A k c (S.take k) :=
  ⟨by rw [List.length_take, h.len]; omega, by have := h.le; omega, h.max, h.bare, fun r hr => h.rows r (List.mem_of_mem_take hr), fun hn => by
    obtain ⟨b, o, e, hb, hc⟩ := h.at_ (by omega)
    refine ⟨b, o, e, hb, fun j x hx => hc j x ?_⟩
    rw [List.getElem?_take] at hx
    split at hx
    · exact hx
    · cases hx⟩
theorem TtAt.rest (h : TtAt w A n c S) {i : Nat} (hi : i ≤ n) : TtAt w (if c = i then A else A.map (fun x => x.add i)) (n - i) (c - i) (S.drop i) := by
  have hle := h.le
  have hmx := h.max
  refine ⟨by rw [List.length_drop, h.len], by omega, by omega, fun e => ?_, fun r hr => h.rows r (List.mem_of_mem_drop hr), fun hn => ?_⟩
  · split at e
    · omega
    · have : A = none := by cases A with
        | none => rfl
        | some a => cases e
      have := h.bare this
      omega
  · obtain ⟨b, o, rfl, hb, hc⟩ := h.at_ (by omega)
    rw [if_neg (by omega)]
    refine ⟨b, o + i, ?_, hb, fun j u hu => ?_⟩
    · simp only [Option.map_some, Option.some.injEq]
      unfold Addr.add
      split
      · rename_i h0
        rw [h0, Nat.add_zero]
      · rfl
    · rw [List.getElem?_drop] at hu
      rw [Nat.add_assoc]
      exact hc _ _ hu
end

/-- Are all rows sets? -/
def ckA (S : List Rw) : Int := if ∀ r ∈ S, Ris r.L then 0 else 80
theorem ckA_ok {S : List Rw} (h : ∀ r ∈ S, Ris r.L) : ckA S = 0 := if_pos h
theorem ckA_no {S : List Rw} (h : ¬ ∀ r ∈ S, Ris r.L) : ckA S = 80 := if_neg h
/-- All texts of some rows. -/
def allT (S : List Rw) : List Tx := S.flatMap fun r => r.L
/-- At most so many texts a row. -/
def Sml (S : List Rw) (m : Nat) : Prop := ∀ r ∈ S, r.n ≤ m

set_option maxRecDepth 100000 in
set_option maxHeartbeats 8000000 in
theorem chkAll_any {A : Option Addr} {n cp : Nat} {S : List Rw} (w : World) (h : TtAt w A n cp S) (hn : n ≤ 1000) (hs : Sml S 100000) :
    Calls Try.prog 43 #[.slice A n cp] w fun e w' => e = .returned (.int .i64 (ckA S)) ∧ Below w.heap.size w w' := by
  have HL := Lib.hid h
  have HN := Lib.hid h.len
  have HS := Lib.hid hs
  obtain ⟨M, hM⟩ : ∃ M, w.heap.size = M := ⟨_, rfl⟩
  have HM := Lib.hid hM
  obtain ⟨C, hC⟩ : ∃ C, ckA S = C := ⟨_, rfl⟩
  have HC := Lib.hid hC
  rw [hC, hM]
  clear h hM hC hs
  go_enter Try.func43, Try.ntmps43
  go_wp2
  go_loopw [8] (fun iv wr => ∃ i : Nat, iv = .int .i64 i ∧ i ≤ n ∧ Below M w wr ∧ ∀ j r, j < i → S[j]? = some r → Ris r.L) (fun iv _ => n - (intOf iv).toNat)
  case atStart => exact ⟨0, rfl, Nat.zero_le _, Below.refl _ _, fun j r h => absurd h (Nat.not_lt_zero _)⟩
  case round =>
    obtain ⟨i, rfl, hi, hb, hr⟩ := hrel
    have HB := Lib.hid hb
    have HR := Lib.hid hr
    clear hr
    by_cases hlt : i < n
    · obtain ⟨r, hr⟩ := HL.out.get hlt
      have hq := HL.out.below (w' := wr) (by rw [HM.out]; exact hb)
      obtain ⟨b, o, rfl, hbl, hc⟩ := hq.at_ (by omega)
      have c0 := hc i r hr
      have hlt' : (i : Int) < (n : Int) := by omega
      have HCK := Lib.hid (check_any wr (hq.row hr) (by have := HS.out r (List.mem_of_getElem? hr); omega))
      have HX := Lib.hid hr
      obtain ⟨RA, hRA⟩ : ∃ RA, r.A = RA := ⟨_, rfl⟩
      obtain ⟨Rn, hRn⟩ : ∃ Rn, r.n = Rn := ⟨_, rfl⟩
      obtain ⟨Rc, hRc⟩ : ∃ Rc, r.c = Rc := ⟨_, rfl⟩
      rw [hRA, hRn, hRc] at c0 HCK
      by_cases hrr : Ris r.L
      · rw [ckX_ok hrr] at HCK
        have HRR := Lib.hid hrr
        clear hc hr hq hb hRA hRn hRc hrr
        go_wp2_with fail
        refine HCK.out.mono ?_
        rintro e w2 ⟨rfl, hb2⟩
        have HB2 : Hid (Below M w w2) := HB.out.trans (hb2.mono (by have := HB.out.size; have := HM.out; omega))
        clear hb2
        go_wp2
        go_roundw
        case rel =>
          refine ⟨i + 1, by go_num, hlt, HB2.out, fun j u hj hu => ?_⟩
          rcases (by omega : j < i ∨ j = i) with q | rfl
          · exact HR.out j u q hu
          · rw [HX.out] at hu
            rw [← Option.some.inj hu]
            exact HRR.out
        case measure => simp only [intOf]; omega
      · rw [ckX_no hrr] at HCK
        have HE : Hid (C = 80) := by
          rw [← HC.out]
          exact ckA_no (fun q => hrr (q r (List.mem_of_getElem? hr)))
        clear hc hr hq hb hRA hRn hRc hrr
        go_wp2_with fail
        refine HCK.out.mono ?_
        rintro e w2 ⟨rfl, hb2⟩
        have HB2 : Hid (Below M w w2) := HB.out.trans (hb2.mono (by have := HB.out.size; have := HM.out; omega))
        clear hb2
        go_wp2
        go_ret
        exact ⟨by rw [HE.out]; rfl, HB2.out⟩
    · have hge : ¬ (i : Int) < (n : Int) := by omega
      have HE : Hid (C = 0) := by
        rw [← HC.out]
        refine ckA_ok (fun r hr => ?_)
        obtain ⟨j, hj⟩ := List.mem_iff_getElem?.1 hr
        exact HR.out j r (by have := (List.getElem?_eq_some_iff.1 hj).1; have := HN.out; omega) hj
      go_wp2
      go_ret
      exact ⟨by rw [HE.out]; rfl, HB.out⟩

set_option maxRecDepth 100000 in
set_option maxHeartbeats 8000000 in
theorem rsets_any {A : Option Addr} {n cp : Nat} {S : List Rw} (w : World) (h : TtAt w A n cp S) (hn : n ≤ 1000) (hs : Sml S 100000) :
    Calls Try.prog 45 #[.slice A n cp] w fun e w' => e = .returned (.bool (decide (∀ r ∈ S, Ris r.L))) ∧ Below w.heap.size w w' := by
  have HL := Lib.hid h
  have HN := Lib.hid h.len
  have HS := Lib.hid hs
  obtain ⟨M, hM⟩ : ∃ M, w.heap.size = M := ⟨_, rfl⟩
  have HM := Lib.hid hM
  obtain ⟨C, hC⟩ : ∃ C, decide (∀ r ∈ S, Ris r.L) = C := ⟨_, rfl⟩
  have HC := Lib.hid hC
  rw [hC, hM]
  clear h hM hC hs
  go_enter Try.func45, Try.ntmps45
  go_wp2
  go_loopw [3] (fun iv wr => ∃ i : Nat, iv = .int .i64 i ∧ i ≤ n ∧ Below M w wr ∧ ∀ j r, j < i → S[j]? = some r → Ris r.L) (fun iv _ => n - (intOf iv).toNat)
  case atStart => exact ⟨0, rfl, Nat.zero_le _, Below.refl _ _, fun j r h => absurd h (Nat.not_lt_zero _)⟩
  case round =>
    obtain ⟨i, rfl, hi, hb, hr⟩ := hrel
    have HB := Lib.hid hb
    have HR := Lib.hid hr
    clear hr
    by_cases hlt : i < n
    · obtain ⟨r, hr⟩ := HL.out.get hlt
      have hq := HL.out.below (w' := wr) (by rw [HM.out]; exact hb)
      obtain ⟨b, o, rfl, hbl, hc⟩ := hq.at_ (by omega)
      have c0 := hc i r hr
      have hlt' : (i : Int) < (n : Int) := by omega
      have HCK := Lib.hid (rcheck_any wr (hq.row hr) (by have := HS.out r (List.mem_of_getElem? hr); omega))
      have HX := Lib.hid hr
      obtain ⟨RA, hRA⟩ : ∃ RA, r.A = RA := ⟨_, rfl⟩
      obtain ⟨Rn, hRn⟩ : ∃ Rn, r.n = Rn := ⟨_, rfl⟩
      obtain ⟨Rc, hRc⟩ : ∃ Rc, r.c = Rc := ⟨_, rfl⟩
      rw [hRA, hRn, hRc] at c0 HCK
      by_cases hrr : Ris r.L
      · rw [ckX_ok hrr] at HCK
        have HRR := Lib.hid hrr
        clear hc hr hq hb hRA hRn hRc hrr
        go_wp2_with fail
        refine HCK.out.mono ?_
        rintro e w2 ⟨rfl, hb2⟩
        have HB2 : Hid (Below M w w2) := HB.out.trans (hb2.mono (by have := HB.out.size; have := HM.out; omega))
        clear hb2
        go_wp2
        go_roundw
        case rel =>
          refine ⟨i + 1, by go_num, hlt, HB2.out, fun j u hj hu => ?_⟩
          rcases (by omega : j < i ∨ j = i) with q | rfl
          · exact HR.out j u q hu
          · rw [HX.out] at hu
            rw [← Option.some.inj hu]
            exact HRR.out
        case measure => simp only [intOf]; omega
      · rw [ckX_no hrr] at HCK
        have HE : Hid (C = false) := by
          rw [← HC.out]
          exact decide_eq_false (fun q => hrr (q r (List.mem_of_getElem? hr)))
        clear hc hr hq hb hRA hRn hRc hrr
        go_wp2_with fail
        refine HCK.out.mono ?_
        rintro e w2 ⟨rfl, hb2⟩
        have HB2 : Hid (Below M w w2) := HB.out.trans (hb2.mono (by have := HB.out.size; have := HM.out; omega))
        clear hb2
        go_wp2
        go_ret
        exact ⟨by rw [HE.out]; rfl, HB2.out⟩
    · have hge : ¬ (i : Int) < (n : Int) := by omega
      have HE : Hid (C = true) := by
        rw [← HC.out]
        refine decide_eq_true (fun r hr => ?_)
        obtain ⟨j, hj⟩ := List.mem_iff_getElem?.1 hr
        exact HR.out j r (by have := (List.getElem?_eq_some_iff.1 hj).1; have := HN.out; omega) hj
      go_wp2
      go_ret
      exact ⟨by rw [HE.out]; rfl, HB.out⟩

end Go.Proofs.Ytkobhlhkkpnmkaa
