/-
  The document's Of, Has, Add, Del over rows of texts; package members' Has. Conditions: the rows lie in memory.
-/
import Derived.Test.YtkobhlhkkpnmkaaMbE
namespace Go.Proofs.Ytkobhlhkkpnmkaa
open Go.RowKit

/-- The set of the first texts, put into one. -/
def ofT (s L : List Tx) (i : Nat) : List Tx := ofX s (L.take i)
theorem ofT_zero (s L : List Tx) : ofT s L 0 = s := rfl
theorem ofT_all (s : List Tx) {L : List Tx} {n : Nat} (h : L.length = n) : ofT s L n = ofX s L := by unfold ofT; rw [List.take_of_length_le (by omega)]
theorem ofT_succ (s : List Tx) {L : List Tx} {i : Nat} {x : Tx} (hx : L[i]? = some x) : ofT s L (i + 1) = putX (ofT s L i) x := by
  unfold ofT
  rw [List.take_add_one, hx]
  exact ofX_snoc _ _ _
theorem ofT_len (s L : List Tx) (i : Nat) : (ofT s L i).length ≤ s.length + i := by
  have h1 := ofX_length s (L.take i)
  have h2 := List.length_take_le i L
  unfold ofT
  omega

set_option maxRecDepth 100000 in
set_option maxHeartbeats 16000000 in
theorem rof_any {A : Option Addr} {n cp : Nat} {L : List Tx} (w : World) (h : TxAt w A n cp L) (hn : n ≤ 1000000) :
    Calls Try.prog 15 #[.slice A n cp] w fun e w' => ∃ A' k c', e = .returned (.slice A' k c') ∧ TxAt w' A' k c' (ofX [] L) ∧ Below w.heap.size w w' := by
  have HL := Lib.hid h
  have HN := Lib.hid h.len
  have HO := Lib.hid (ofT_all [] h.len)
  have HOL := Lib.hid (fun i => ofT_len [] L i)
  obtain ⟨O, hO⟩ : ∃ O, ofX [] L = O := ⟨_, rfl⟩
  obtain ⟨M, hM⟩ : ∃ M, w.heap.size = M := ⟨_, rfl⟩
  have HM := Lib.hid hM
  rw [hO] at HO ⊢
  rw [hM]
  clear h hO hM
  go_enter Try.func15, Try.ntmps15
  go_wp2
  go_loopw [3, 4] (fun sv iv wr => ∃ (i k : Nat) (A' : Option Addr) (c' : Nat), sv = .slice A' k c' ∧ iv = .int .i64 i ∧ i ≤ n ∧ TxAt wr A' k c' (ofT [] L i) ∧ Below M w wr) (fun _ iv _ => n - (intOf iv).toNat)
  case atStart => exact ⟨0, 0, none, 0, rfl, rfl, Nat.zero_le _, TxAt.nil w, Below.refl _ _⟩
  case round =>
    obtain ⟨i, k, A', c', rfl, rfl, hi, ht, hb⟩ := hrel
    have HT := Lib.hid ht
    have HB := Lib.hid hb
    by_cases hlt : i < n
    · obtain ⟨x, hx⟩ := HL.out.get (j := i) hlt
      obtain ⟨b, o, rfl, hbl, hc⟩ := (HL.out.below (w' := wr) (by rw [HM.out]; exact hb)).at_ (by omega)
      have c0 := hc i x hx
      have hlt' : (i : Int) < (n : Int) := by omega
      have HP := Lib.hid (rput_any wr ht (by have := HOL.out i; have := ht.len; simp only [List.length_nil] at *; omega) x (HL.out.fit hx))
      rw [← ofT_succ [] hx] at HP
      obtain ⟨T, hT⟩ : ∃ T : ByteArray, (⟨x.toArray⟩ : ByteArray) = T := ⟨_, rfl⟩
      rw [hT] at c0 HP
      clear hc hx hT ht hb
      go_wp2_with fail
      refine HP.out.mono ?_
      rintro e w2 ⟨A2, c2, rfl, h2, hb2⟩
      have H2 := Lib.hid h2
      have HB2 : Hid (Below M w w2) := HB.out.trans (hb2.mono (by have := HB.out.size; have := HM.out; omega))
      clear h2 hb2
      go_wp2
      go_roundw
      case rel => exact ⟨i + 1, _, A2, c2, rfl, by go_num, hlt, H2.out, HB2.out⟩
      case measure => simp only [intOf]; omega
    · have hge : ¬ (i : Int) < (n : Int) := by omega
      obtain rfl : i = n := by omega
      rw [HO.out] at HT
      clear ht hb
      go_wp2
      go_ret
      exact ⟨A', k, c', rfl, HT.out, HB.out⟩

set_option maxRecDepth 100000 in
set_option maxHeartbeats 8000000 in
theorem rhas_any {A : Option Addr} {n cp : Nat} {L : List Tx} (w : World) (h : TxAt w A n cp L) (hn : n ≤ 1000000) (z : Tx) :
    Calls Try.prog 12 #[.slice A n cp, .string ⟨z.toArray⟩] w fun e w' => e = .returned (.tuple #[.bool (if Ris L then decide (z ∈ L) else false), .int .i64 (ckX L)]) ∧ Below w.heap.size w w' := by
  have HC := Lib.hid (rcheck_any w h (by omega))
  have HI := Lib.hid (fun X hX => rin_any (w := X) (h.below hX) (by omega) z)
  obtain ⟨Z, hZ⟩ : ∃ Z : ByteArray, (⟨z.toArray⟩ : ByteArray) = Z := ⟨_, rfl⟩
  rw [hZ] at HI ⊢
  clear h hZ
  by_cases hr : Ris L
  · rw [if_pos hr]
    rw [ckX_ok hr] at HC ⊢
    obtain ⟨D, hD⟩ : ∃ D, decide (z ∈ L) = D := ⟨_, rfl⟩
    rw [hD] at HI ⊢
    clear hr hD
    go_enter Try.func12, Try.ntmps12
    go_wp2_with fail
    refine HC.out.mono ?_
    rintro e w1 ⟨rfl, hb1⟩
    have HB1 := Lib.hid hb1
    clear hb1
    go_wp2_with fail
    refine (HI.out w1 HB1.out).mono ?_
    rintro e w2 ⟨rfl, hw2⟩
    rw [hw2]
    clear hw2
    go_wp2
    go_ret2
    exact ⟨rfl, HB1.out⟩
  · rw [if_neg hr]
    rw [ckX_no hr] at HC ⊢
    clear hr HI
    go_enter Try.func12, Try.ntmps12
    go_wp2_with fail
    refine HC.out.mono ?_
    rintro e w1 ⟨rfl, hb1⟩
    have HB1 := Lib.hid hb1
    clear hb1
    go_wp2
    go_ret2
    exact ⟨rfl, HB1.out⟩

/-- What halving tells of a set. -/
theorem bs_set {L : List Tx} (hr : Ris L) {n : Nat} (hn : L.length = n) (z : Tx) (Sx : Nat → ByteArray) (hS : ∀ j x, L[j]? = some x → Sx j = ⟨x.toArray⟩) (Z : ByteArray) (hZ : (⟨z.toArray⟩ : ByteArray) = Z) :
    decide (Lib.bsGo (fun t => Op.bytesLess (Sx t).toList Z.toList) n 0 n < n ∧ Sx (Lib.bsGo (fun t => Op.bytesLess (Sx t).toList Z.toList) n 0 n) = Z) = decide (z ∈ L) := by
  have hk := belowN_le L z
  obtain ⟨F, hF⟩ : ∃ F : Nat → Bool, (fun t => if t < n then Op.bytesLess (Sx t).toList Z.toList else false) = F := ⟨_, rfl⟩
  have hless : ∀ t, t < n → Op.bytesLess (Sx t).toList Z.toList = decide (t < belowN L z) := fun t ht => by
    have hx : L[t]? = some L[t] := List.getElem?_eq_getElem (by omega)
    rw [hS t _ hx, ← hZ, ByteArray.toList_eq, ByteArray.toList_eq]
    exact ris_less hr z (by omega)
  have hb : ∀ (f lo hi : Nat), hi - lo ≤ f → lo ≤ belowN L z → belowN L z ≤ hi → hi ≤ n → Lib.bsGo (fun t => Op.bytesLess (Sx t).toList Z.toList) f lo hi = belowN L z := by
    intro f
    induction f with
    | zero => intro lo hi h1 h2 h3 h4; simp [Lib.bsGo]; omega
    | succ f ih =>
      intro lo hi h1 h2 h3 h4
      unfold Lib.bsGo
      by_cases h : lo < hi
      · rw [if_pos h]
        rw [hless _ (by omega)]
        by_cases hm : (lo + hi) / 2 < belowN L z
        · rw [decide_eq_true hm, if_pos rfl]
          exact ih _ _ (by omega) (by omega) h3 h4
        · rw [decide_eq_false hm, if_neg (by decide)]
          exact ih _ _ (by omega) h2 (by omega) (by omega)
      · rw [if_neg h]
        omega
  rw [hb n 0 n (by omega) (Nat.zero_le _) (by omega) (Nat.le_refl _)]
  by_cases hm : z ∈ L
  · rw [decide_eq_true hm]
    have q := (ris_in hr z).1 hm
    exact decide_eq_true ⟨by have := (List.getElem?_eq_some_iff.1 q).1; omega, by rw [hS _ _ q, hZ]⟩
  · rw [decide_eq_false hm]
    refine decide_eq_false (fun ⟨h1, h2⟩ => hm ((ris_in hr z).2 ?_))
    have hx : L[belowN L z]? = some L[belowN L z] := List.getElem?_eq_getElem (by omega)
    have h3 : (⟨(L[belowN L z]).toArray⟩ : ByteArray) = ⟨z.toArray⟩ := (hS _ _ hx).symm.trans (h2.trans hZ.symm)
    rw [hx]
    injection h3 with h3
    exact congrArg some (by simpa using h3)

set_option maxRecDepth 100000 in
set_option maxHeartbeats 8000000 in
theorem has_any {A : Option Addr} {n cp : Nat} {L : List Tx} (w : World) (h : TxAt w A n cp L) (hn : n ≤ 1000000) (z : Tx) :
    Calls Try.prog 11 #[.slice A n cp, .string ⟨z.toArray⟩] w fun e w' => e = .returned (.tuple #[.bool (if Ris L then decide (z ∈ L) else false), .int .i64 (ckX L)]) ∧ Below w.heap.size w w' := by
  have HC := Lib.hid (check_any w h (by omega))
  obtain ⟨Z, hZ⟩ : ∃ Z : ByteArray, (⟨z.toArray⟩ : ByteArray) = Z := ⟨_, rfl⟩
  have HBS : Ris L → Hid (∀ X, Below w.heap.size w X → Calls Try.prog 35 #[.slice A n cp, .string Z] X fun e w' => ∃ p : Int, e = .returned (.tuple #[.int .i64 p, .bool (decide (z ∈ L))]) ∧ Below X.heap.size X w') := fun hr X hX => by
    rcases Nat.eq_zero_or_pos n with h0 | h0
    · subst h0
      obtain rfl : L = [] := List.eq_nil_of_length_eq_zero h.len
      refine (Try.slices_BinarySearch_string_empty A cp Z X).mono ?_
      rintro e w' ⟨rfl, rfl⟩
      exact ⟨0, by simp, Below.refl _ _⟩
    · obtain ⟨b, o, rfl, hb, hc⟩ := (h.below hX).at_ h0
      have hS : ∀ (j : Nat) (x : Tx), L[j]? = some x → (fun (j : Nat) => (⟨((L[j]?).getD []).toArray⟩ : ByteArray)) j = ⟨x.toArray⟩ := fun j x hx => by dsimp only; rw [hx]; rfl
      refine (Try.slices_BinarySearch_string b o n cp (fun j => ⟨((L[j]?).getD []).toArray⟩) Z X (by omega) (fun j hj => ?_)).mono ?_
      · obtain ⟨x, hx⟩ := h.get hj
        rw [hc j x hx, hx]
        rfl
      · rintro e w' ⟨rfl, q, rfl⟩
        rw [bs_set hr h.len z _ hS Z hZ]
        exact ⟨_, rfl, below_drewN _ _ _⟩
  rw [hZ]
  clear h hZ
  by_cases hr : Ris L
  · have HI := HBS hr
    rw [if_pos hr]
    rw [ckX_ok hr] at HC ⊢
    obtain ⟨D, hD⟩ : ∃ D, decide (z ∈ L) = D := ⟨_, rfl⟩
    rw [hD] at HI ⊢
    clear hr hD HBS
    go_enter Try.func11, Try.ntmps11
    go_wp2_with fail
    refine HC.out.mono ?_
    rintro e w1 ⟨rfl, hb1⟩
    have HB1 := Lib.hid hb1
    clear hb1
    go_wp2_with fail
    refine (HI.out w1 HB1.out).mono ?_
    rintro e w2 ⟨p, rfl, hb2⟩
    have HB2 := Lib.hid (bup HB1.out hb2)
    clear hb2
    go_wp2
    go_ret2
    exact ⟨rfl, HB2.out⟩
  · rw [if_neg hr]
    rw [ckX_no hr] at HC ⊢
    clear hr HBS
    go_enter Try.func11, Try.ntmps11
    go_wp2_with fail
    refine HC.out.mono ?_
    rintro e w1 ⟨rfl, hb1⟩
    have HB1 := Lib.hid hb1
    clear hb1
    go_wp2
    go_ret2
    exact ⟨rfl, HB1.out⟩

end Go.Proofs.Ytkobhlhkkpnmkaa
