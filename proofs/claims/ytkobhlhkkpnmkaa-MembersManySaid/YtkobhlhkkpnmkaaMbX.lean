/-
  Package members: union, Union; the document's Union. Conditions: the rows lie in memory.
-/
import Derived.Test.YtkobhlhkkpnmkaaMbW
namespace Go.Proofs.Ytkobhlhkkpnmkaa
open Go.RowKit

theorem allT_fits {w : World} {A : Option Addr} {n c : Nat} {S : List Rw} (h : TtAt w A n c S) {x : Tx} (hx : x ∈ allT S) : x.length ≤ 140737488355328 := by
  obtain ⟨r, hr, hx⟩ := List.mem_flatMap.1 hx
  exact (h.rows r hr).fits x hx

theorem allT_len {w : World} {A : Option Addr} {n c m : Nat} {S : List Rw} (h : TtAt w A n c S) (hs : Sml S m) : (allT S).length ≤ n * m := by
  have hl := h.len
  have hrows := h.rows
  clear h
  subst hl
  induction S with
  | nil => simp [allT]
  | cons r S ih =>
    have h1 := hs r (List.mem_cons_self ..)
    have h2 := (hrows r (List.mem_cons_self ..)).len
    have h3 := ih (fun r hr => hs r (List.mem_cons_of_mem _ hr)) (fun r hr => hrows r (List.mem_cons_of_mem _ hr))
    have e : allT (r :: S) = r.L ++ allT S := rfl
    rw [e, List.length_append, List.length_cons, Nat.add_mul, Nat.one_mul]
    omega

/-- What merging the halves makes. -/
theorem un_halves {S : List Rw} (k : Nat) : mgX (ofX [] (allT (S.take k))) (ofX [] (allT (S.drop k))) = ofX [] (allT S) := by
  have h1 := ofX_ris List.Pairwise.nil (allT (S.take k))
  rw [mgX_of h1 (ofX_ris List.Pairwise.nil _)]
  refine Ris.unique (ofX_ris h1 _) (ofX_ris List.Pairwise.nil _) fun x => ?_
  rw [ofX_mem, ofX_mem, ofX_mem, ofX_mem]
  have e : allT S = allT (S.take k) ++ allT (S.drop k) := by
    unfold allT
    rw [← List.flatMap_append, List.take_append_drop]
  rw [e, List.mem_append]
  simp

set_option maxRecDepth 100000 in
set_option maxHeartbeats 16000000 in
theorem union_any : ∀ (f : Nat) {A : Option Addr} {n cp : Nat} {S : List Rw} (w : World), n ≤ f → TtAt w A n cp S → n ≤ 20 → Sml S 1000 → (∀ r ∈ S, Ris r.L) →
    Calls Try.prog 44 #[.slice A n cp] w fun e w' => ∃ A' k c', e = .returned (.slice A' k c') ∧ TxAt w' A' k c' (ofX [] (allT S)) ∧ Below w.heap.size w w'
  | 0, A, n, cp, S, w, hf, h, hn, hs, hr => by
    obtain rfl : n = 0 := by omega
    obtain rfl : S = [] := List.eq_nil_of_length_eq_zero h.len
    rw [show ofX [] (allT []) = [] from rfl]
    clear h
    go_enter Try.func44, Try.ntmps44
    go_wp2
    go_ret
    exact ⟨none, 0, 0, rfl, TxAt.nil _, Below.refl _ _⟩
  | f + 1, A, n, cp, S, w, hf, h, hn, hs, hr => by
    rcases (by omega : n = 0 ∨ n = 1 ∨ 2 ≤ n) with rfl | rfl | h2
    · obtain rfl : S = [] := List.eq_nil_of_length_eq_zero h.len
      rw [show ofX [] (allT []) = [] from rfl]
      clear h
      go_enter Try.func44, Try.ntmps44
      go_wp2
      go_ret
      exact ⟨none, 0, 0, rfl, TxAt.nil _, Below.refl _ _⟩
    · obtain ⟨r, hS⟩ : ∃ r, S = [r] := by
        match S, h.len with
        | [r], _ => exact ⟨r, rfl⟩
      subst hS
      obtain ⟨b, o, rfl, hbl, hc⟩ := h.at_ (by omega)
      have c0 := hc 0 r rfl
      rw [Nat.add_zero] at c0
      have e : ofX [] (allT [r]) = r.L := by
        have e1 : allT [r] = r.L := by unfold allT; simp
        rw [e1]
        exact ofX_self (hr r (List.mem_cons_self ..))
      rw [e]
      have HT := Lib.hid (h.rows r (List.mem_cons_self ..))
      clear h hc e hr hs
      go_enter Try.func44, Try.ntmps44
      go_wp2
      go_ret
      exact ⟨r.A, r.n, r.c, rfl, HT.out, Below.refl _ _⟩
    · obtain ⟨k, hk⟩ : ∃ k, n / 2 = k := ⟨_, rfl⟩
      have hkn : k ≤ n := by omega
      have hq1 : (n : Int).tdiv 2 = (k : Int) := by rw [Int.tdiv_eq_ediv_of_nonneg (by omega)]; omega
      have hq2 : IntKind.i64.wrap ((n : Int).tdiv 2) = (k : Int) := by rw [hq1]; exact IntWalk.i64_in _ (by omega)
      have hq3 : (n : Int) / 2 = (k : Int) := by omega
      have hle := h.le
      have hmx := h.max
      have hk0 : (0 : Int) ≤ (k : Int) := by omega
      have hkc : (k : Int) ≤ (cp : Int) := by omega
      have hkn' : (k : Int) ≤ (n : Int) := by omega
      have hnc : (n : Int) ≤ (cp : Int) := by omega
      have hn0 : ¬ (n : Int) = 0 := by omega
      have hn1 : ¬ (n : Int) = 1 := by omega
      have HH := Lib.hid (un_halves (S := S) k)
      have h1 := h.first hkn
      have h2' := h.rest hkn
      have hcr : ¬ cp = k := by omega
      rw [if_neg hcr] at h2'
      obtain ⟨b, o, rfl, _, _⟩ := h.at_ (by omega)
      have hadd : (some (⟨b, o, none⟩ : Addr)).map (fun x => x.add k) = some ⟨b, o + k, none⟩ := by simp [Addr.add]; omega
      rw [hadd] at h2'
      have HU1 : Hid (∀ X, Below w.heap.size w X → Calls Try.prog 44 #[.slice (some ⟨b, o, none⟩) k cp] X fun e w' => ∃ A' k' c', e = .returned (.slice A' k' c') ∧ TxAt w' A' k' c' (ofX [] (allT (S.take k))) ∧ Below X.heap.size X w') := fun X hX => union_any f X (by omega) (h1.below hX) (by omega) (fun r hr' => hs r (List.mem_of_mem_take hr')) (fun r hr' => hr r (List.mem_of_mem_take hr'))
      have HU2 : Hid (∀ X, Below w.heap.size w X → Calls Try.prog 44 #[.slice (some ⟨b, o + k, none⟩) (n - k) (cp - k)] X fun e w' => ∃ A' k' c', e = .returned (.slice A' k' c') ∧ TxAt w' A' k' c' (ofX [] (allT (S.drop k))) ∧ Below X.heap.size X w') := fun X hX => union_any f X (by omega) (h2'.below hX) (by omega) (fun r hr' => hs r (List.mem_of_mem_drop hr')) (fun r hr' => hr r (List.mem_of_mem_drop hr'))
      have hL1 : (ofX [] (allT (S.take k))).length ≤ 30000 := by
        have := ofX_length [] (allT (S.take k)); have := allT_len h1 (fun r hr' => hs r (List.mem_of_mem_take hr')); simp only [List.length_nil] at *; omega
      have hL2 : (ofX [] (allT (S.drop k))).length ≤ 30000 := by
        have := ofX_length [] (allT (S.drop k)); have := allT_len h2' (fun r hr' => hs r (List.mem_of_mem_drop hr')); simp only [List.length_nil] at *; omega
      obtain ⟨L1, hE1⟩ : ∃ L1, ofX [] (allT (S.take k)) = L1 := ⟨_, rfl⟩
      obtain ⟨L2, hE2⟩ : ∃ L2, ofX [] (allT (S.drop k)) = L2 := ⟨_, rfl⟩
      rw [hE1] at HU1 HH hL1
      rw [hE2] at HU2 HH hL2
      obtain ⟨O, hO⟩ : ∃ O, ofX [] (allT S) = O := ⟨_, rfl⟩
      rw [hO] at HH ⊢
      have HL1 := Lib.hid hL1
      have HL2 := Lib.hid hL2
      have H0 : Hid (Below w.heap.size w w) := Below.refl _ _
      clear h h1 h2' hs hr hE1 hE2 hO hL1 hL2 hadd hcr hk hq1
      go_enter Try.func44, Try.ntmps44
      go_wp2_with fail
      go_region_held3 (fun X => Below w.heap.size w X)
        (first | exact HC3.out | exact HC2.out | exact HC1.out | exact H0.out.drew | exact H0.out)
        (first
          | (have qq := HC2; clear qq; go_at_call 39; refine Calls.mono (merged_any _ HT12.out HT2.out (by omega)) ?_; rw [HH.out]; rintro en x3 ⟨A3, k3, c3, rfl, ht3, hq, _⟩; have HT3 := Lib.hid ht3; have HC3 : Hid (Below w.heap.size w x3) := bup HC2.out hq; clear ht3 hq)
          | (have qq := HC1; clear qq; go_at_call 44; refine Calls.mono (HU2.out _ (by first | exact HC1.out | exact HC1.out.drew)) ?_; rintro en x2 ⟨A2, k2, c2, rfl, ht2, hq⟩; have HT2 := Lib.hid ht2; have HT12 := Lib.hid (HT1.out.below hq); have HC2 : Hid (Below w.heap.size w x2) := bup HC1.out hq; have hk2 : k2 ≤ 30000 := (by have q1 := ht2.len; have q2 := HL2.out; omega); clear ht2 hq)
          | (go_at_call 44; refine Calls.mono (HU1.out _ (by first | exact H0.out.drew | exact H0.out)) ?_; rintro en x1 ⟨A1, k1, c1, rfl, ht1, hq⟩; have HT1 := Lib.hid ht1; have HC1 : Hid (Below w.heap.size w x1) := (by first | exact bup H0.out hq | exact (Below.refl _ _).drew.trans hq); have hk1 : k1 ≤ 30000 := (by have q1 := ht1.len; have q2 := HL1.out; omega); clear ht1 hq))
      all_goals
        go_wp2
        go_ret
        exact ⟨A3, k3, c3, rfl, HT3.out, HC3.out⟩

end Go.Proofs.Ytkobhlhkkpnmkaa
