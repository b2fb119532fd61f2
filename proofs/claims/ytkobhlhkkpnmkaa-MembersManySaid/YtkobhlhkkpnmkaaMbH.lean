/-
  The document's Add, Del over rows of texts. Conditions: the rows lie in memory.
-/
import Derived.Test.YtkobhlhkkpnmkaaMbF
namespace Go.Proofs.Ytkobhlhkkpnmkaa
open Go.RowKit

/-- What Add makes; what Del leaves. -/
def addX (L K : List Tx) : List Tx := if Ris L then ofX L K else []
def delX (L K : List Tx) : List Tx := if Ris L then L.filter (fun x => decide (x ∉ K)) else []
/-- How many are new; how many went. -/
def addN (L K : List Tx) : Int := if Ris L then ((ofX L K).length : Int) - (L.length : Int) else 0
def delN (L K : List Tx) : Int := if Ris L then (L.length : Int) - ((L.filter (fun x => decide (x ∉ K))).length : Int) else 0

/-- The first texts of a row that stay. -/
def fiT (p : Tx → Bool) (L : List Tx) (i : Nat) : List Tx := (L.take i).filter p
theorem fiT_zero (p : Tx → Bool) (L : List Tx) : fiT p L 0 = [] := rfl
theorem fiT_all (p : Tx → Bool) {L : List Tx} {n : Nat} (h : L.length = n) : fiT p L n = L.filter p := by unfold fiT; rw [List.take_of_length_le (by omega)]
theorem fiT_yes {p : Tx → Bool} {L : List Tx} {i : Nat} {x : Tx} (hx : L[i]? = some x) (hp : p x = true) : fiT p L (i + 1) = fiT p L i ++ [x] := by
  unfold fiT
  rw [List.take_add_one, hx, List.filter_append]
  simp [hp]
theorem fiT_no {p : Tx → Bool} {L : List Tx} {i : Nat} {x : Tx} (hx : L[i]? = some x) (hp : p x = false) : fiT p L (i + 1) = fiT p L i := by
  unfold fiT
  rw [List.take_add_one, hx, List.filter_append]
  simp [hp]
theorem fiT_len (p : Tx → Bool) (L : List Tx) (i : Nat) : (fiT p L i).length ≤ i := by
  have h1 := List.length_filter_le p (L.take i)
  have h2 := List.length_take_le i L
  unfold fiT
  omega

set_option maxRecDepth 100000 in
set_option maxHeartbeats 16000000 in
theorem radd_any {A B : Option Addr} {n m cp cq : Nat} {L K : List Tx} (w : World) (ha : TxAt w A n cp L) (hb : TxAt w B m cq K) (hn : n ≤ 1000000) (hm : m ≤ 1000000) :
    Calls Try.prog 20 #[.slice A n cp, .slice B m cq] w fun e w' => ∃ A' k c', e = .returned (.tuple #[.slice A' k c', .int .i64 (addN L K), .int .i64 (ckX L)]) ∧ TxAt w' A' k c' (addX L K) ∧ Below w.heap.size w w' := by
  have HC := Lib.hid (rcheck_any w ha (by omega))
  have HA := Lib.hid ha
  have HB := Lib.hid hb
  have HLA := Lib.hid ha.len
  have HLB := Lib.hid hb.len
  obtain ⟨M, hM⟩ : ∃ M, w.heap.size = M := ⟨_, rfl⟩
  have HM := Lib.hid hM
  rw [hM] at HC ⊢
  by_cases hr : Ris L
  · have HO := Lib.hid (ofT_all L hb.len)
    have HOL := Lib.hid (fun i => ofT_len L K i)
    unfold addX addN
    rw [if_pos hr, if_pos hr]
    rw [ckX_ok hr] at HC ⊢
    obtain ⟨O, hO⟩ : ∃ O, ofX L K = O := ⟨_, rfl⟩
    have hOl := ofX_length L K
    rw [ha.len, hb.len] at hOl
    rw [hO] at HO hOl ⊢
    obtain ⟨Z, hZ⟩ : ∃ Z : Int, (O.length : Int) - (L.length : Int) = Z := ⟨_, rfl⟩
    rw [hZ]
    rw [ha.len] at hZ
    have HZ := Lib.hid hZ
    have HOl := Lib.hid hOl
    clear ha hb hr hO hM hZ hOl
    go_enter Try.func20, Try.ntmps20
    go_wp2_with fail
    refine HC.out.mono ?_
    rintro e w1 ⟨rfl, hb1⟩
    have HB1 := Lib.hid hb1
    have hm1 : M ≤ w1.heap.size := by have q := hb1.size; have q2 := HM.out; omega
    have HEMP : Hid ((w1.alloc (.cells #[] 9)).ownsRow M 9 1 (.slice (some ⟨w1.heap.size, 0, none⟩) 0 0) 0 (([] : List Tx).map encStr)) := World.ownsRow_made w1 #[] 0 hm1 (by decide) rfl
    have HB1b : Hid (Below M w (w1.alloc (.cells #[] 9))) := hb1.alloc hm1 _
    have HST := Lib.hid (HA.out.below (w' := w1.alloc (.cells #[] 9)) (by rw [HM.out]; exact HB1b.out))
    have hxz : M ≤ (w1.alloc (.cells #[] 9)).heap.size := by rw [World.size_alloc]; omega
    clear hb1
    go_wp2_with (at_builtin; refine wpList_append_tx rfl _ _ rfl M (.slice (some ⟨w1.heap.size, 0, none⟩) 0 0) 0 [] rfl HEMP.out A n cp L rfl HST.out (by omega) hxz ?_)
    intro v2 w2 hown hgr
    unfold TxO at hown
    have HB2 : Hid (Below M w w2) := HB1b.out.grown hgr hxz (fun k e => (HEMP.out.lt k e).1)
    obtain ⟨A2, c2, rfl, h2, _⟩ := tx_of_own hown HA.out.fits
    have H2 := Lib.hid h2
    clear hown hgr h2
    go_wp2_with fail
    go_loopw [7, 8] (fun sv iv wr => ∃ (i k : Nat) (A' : Option Addr) (c' : Nat), sv = .slice A' k c' ∧ iv = .int .i64 i ∧ i ≤ m ∧ TxAt wr A' k c' (ofT L K i) ∧ Below M w wr) (fun _ iv _ => m - (intOf iv).toNat)
    case atStart => exact ⟨0, n, A2, c2, rfl, rfl, Nat.zero_le _, H2.out, HB2.out⟩
    case round =>
      obtain ⟨i, k, A', c', rfl, rfl, hi, ht, hbw⟩ := hrel
      have HT := Lib.hid ht
      have HBW := Lib.hid hbw
      by_cases hlt : i < m
      · obtain ⟨x, hx⟩ := HB.out.get (j := i) hlt
        obtain ⟨b, o, rfl, hbl, hc⟩ := (HB.out.below (w' := wr) (by rw [HM.out]; exact hbw)).at_ (by omega)
        have c0 := hc i x hx
        have hlt' : (i : Int) < (m : Int) := by omega
        have HP := Lib.hid (rput_any wr ht (by have := HOL.out i; have := ht.len; have := HLA.out; omega) x (HB.out.fit hx))
        rw [← ofT_succ L hx] at HP
        obtain ⟨T, hT⟩ : ∃ T : ByteArray, (⟨x.toArray⟩ : ByteArray) = T := ⟨_, rfl⟩
        rw [hT] at c0 HP
        clear hc hx hT ht hbw
        go_wp2_with fail
        refine HP.out.mono ?_
        rintro e w3 ⟨A3, c3, rfl, h3, hb3⟩
        have H3 := Lib.hid h3
        have HB3 : Hid (Below M w w3) := HBW.out.trans (hb3.mono (by have := HBW.out.size; have := HM.out; omega))
        clear h3 hb3
        go_wp2
        go_roundw
        case rel => exact ⟨i + 1, _, A3, c3, rfl, by go_num, hlt, H3.out, HB3.out⟩
        case measure => simp only [intOf]; omega
      · have hge : ¬ (i : Int) < (m : Int) := by omega
        obtain rfl : i = m := by omega
        rw [HO.out] at HT
        have hk := HT.out.len
        have hw : IntKind.i64.wrap ((k : Int) - (n : Int)) = Z := by rw [← HZ.out, hk, IntWalk.i64_in _ (by have := HOl.out; omega)]
        clear ht hbw hk
        go_wp2
        go_ret3
        exact ⟨A', k, c', rfl, HT.out, HBW.out⟩
  · unfold addX addN
    rw [if_neg hr, if_neg hr]
    rw [ckX_no hr] at HC ⊢
    clear ha hb hr hM
    go_enter Try.func20, Try.ntmps20
    go_wp2_with fail
    refine HC.out.mono ?_
    rintro e w1 ⟨rfl, hb1⟩
    have HB1 := Lib.hid hb1
    clear hb1
    go_wp2
    go_ret3
    exact ⟨none, 0, 0, rfl, TxAt.nil _, HB1.out⟩

set_option maxRecDepth 100000 in
set_option maxHeartbeats 16000000 in
theorem rdel_any {A B : Option Addr} {n m cp cq : Nat} {L K : List Tx} (w : World) (ha : TxAt w A n cp L) (hb : TxAt w B m cq K) (hn : n ≤ 1000000) (hm : m ≤ 1000000) :
    Calls Try.prog 22 #[.slice A n cp, .slice B m cq] w fun e w' => ∃ A' k c', e = .returned (.tuple #[.slice A' k c', .int .i64 (delN L K), .int .i64 (ckX L)]) ∧ TxAt w' A' k c' (delX L K) ∧ Below w.heap.size w w' := by
  have HC := Lib.hid (rcheck_any w ha (by omega))
  have HA := Lib.hid ha
  have HB := Lib.hid hb
  obtain ⟨M, hM⟩ : ∃ M, w.heap.size = M := ⟨_, rfl⟩
  have HM := Lib.hid hM
  rw [hM] at HC ⊢
  by_cases hr : Ris L
  · unfold delX delN
    rw [if_pos hr, if_pos hr]
    rw [ckX_ok hr] at HC ⊢
    obtain ⟨p, hp⟩ : ∃ p : Tx → Bool, (fun x => decide (x ∉ K)) = p := ⟨_, rfl⟩
    have HPP : Hid (∀ x, p x = !decide (x ∈ K)) := fun x => by rw [← hp]; by_cases q : x ∈ K <;> simp [q]
    rw [hp]
    have HO := Lib.hid (fiT_all p ha.len)
    have HOL := Lib.hid (fun i => fiT_len p L i)
    obtain ⟨O, hO⟩ : ∃ O, L.filter p = O := ⟨_, rfl⟩
    rw [hO] at HO ⊢
    have HOF : Hid (∀ i, ∀ x ∈ fiT p L i, x.length ≤ 140737488355328) := fun i x hx => by
      unfold fiT at hx
      exact HA.out.fits x (List.mem_of_mem_take (List.mem_filter.1 hx).1)
    have HIN : Hid (∀ (x : Tx) (X : World), Below M w X → Calls Try.prog 34 #[.slice B m cq, .string ⟨x.toArray⟩] X fun e w' => e = .returned (.bool (!p x)) ∧ w' = X) := fun x X hX => by
      have q := rin_any X (HB.out.below (by rw [HM.out]; exact hX)) (by omega) x
      rw [HPP.out x, Bool.not_not]
      exact q
    have hOl : O.length ≤ n := by have := HOL.out n; rw [HO.out] at this; exact this
    obtain ⟨Z, hZ⟩ : ∃ Z : Int, (L.length : Int) - (O.length : Int) = Z := ⟨_, rfl⟩
    rw [hZ]
    rw [ha.len] at hZ
    have HZ := Lib.hid hZ
    have HOl := Lib.hid hOl
    clear ha hb hr hO hM hZ hOl hp
    go_enter Try.func22, Try.ntmps22
    go_wp2_with fail
    refine HC.out.mono ?_
    rintro e w1 ⟨rfl, hb1⟩
    have HB1 := Lib.hid hb1
    clear hb1
    go_wp2_with fail
    go_loopw [7, 8] (fun sv iv wr => ∃ (i k : Nat) (A' : Option Addr) (c' : Nat), sv = .slice A' k c' ∧ iv = .int .i64 i ∧ i ≤ n ∧ wr.ownsRow M 9 1 (.slice A' k c') k ((fiT p L i).map encStr) ∧ k ≤ i ∧ Below M w wr) (fun _ iv _ => n - (intOf iv).toNat)
    case atStart => exact ⟨0, 0, none, 0, rfl, rfl, Nat.zero_le _, ⟨rfl, Or.inl ⟨rfl, rfl⟩⟩, Nat.le_refl _, HB1.out⟩
    case round =>
      obtain ⟨i, k, A', c', rfl, rfl, hi, ht, hki, hbw⟩ := hrel
      have HT := Lib.hid ht
      have HBW := Lib.hid hbw
      by_cases hlt : i < n
      · obtain ⟨x, hx⟩ := HA.out.get (j := i) hlt
        obtain ⟨b, o, rfl, hbl, hc⟩ := (HA.out.below (w' := wr) (by rw [HM.out]; exact hbw)).at_ (by omega)
        have c0 := hc i x hx
        have hlt' : (i : Int) < (n : Int) := by omega
        have HI := Lib.hid (HIN.out x wr hbw)
        have HFX := Lib.hid (HA.out.fit hx)
        obtain ⟨T, hT⟩ : ∃ T : ByteArray, (⟨x.toArray⟩ : ByteArray) = T := ⟨_, rfl⟩
        have HTT := Lib.hid hT
        rw [hT] at c0 HI
        have HX := Lib.hid hx
        have hmw : M ≤ wr.heap.size := by have q := hbw.size; have q2 := HM.out; omega
        clear hc hx hT ht hbw
        cases hpx : p x with
        | true =>
          rw [hpx] at HI
          have HE := Lib.hid (fiT_yes HX.out hpx)
          have HW := Lib.hid (World.ownsRow.alloc (w := wr) HT.out (.cells #[.string T] 9))
          have HONE := Lib.hid (TxAt.one wr x wr.heap.size rfl HFX.out)
          rw [HTT.out] at HONE
          have hzw : M ≤ (wr.alloc (.cells #[.string T] 9)).heap.size := by rw [World.size_alloc]; omega
          have HBX : Hid (Below M w (wr.alloc (.cells #[.string T] 9))) := HBW.out.alloc hmw _
          clear hpx
          go_wp2_with fail
          refine HI.out.mono ?_
          rintro e w3 ⟨rfl, hw3⟩
          rw [hw3]
          clear hw3
          go_wp2_with (at_builtin; refine wpList_append_tx rfl _ _ rfl M (.slice A' k c') k (fiT p L i) rfl HW.out (some ⟨wr.heap.size, 0, none⟩) 1 1 [x] rfl HONE.out (by omega) hzw ?_)
          intro v5 w5 hown hgr
          unfold TxO at hown
          obtain ⟨A5, c5, rfl⟩ := own_slice hown
          have HO5 : Hid (w5.ownsRow M 9 1 (.slice A5 (k + 1) c5) (k + 1) ((fiT p L (i + 1)).map encStr)) := by unfold Hid; rw [HE.out]; exact hown
          have HB5 : Hid (Below M w w5) := HBX.out.grown hgr hzw (fun k e => (HW.out.lt k e).1)
          clear hown hgr
          go_wp2
          go_roundw
          case rel => exact ⟨i + 1, k + 1, A5, c5, rfl, by go_num, hlt, HO5.out, by omega, HB5.out⟩
          case measure => simp only [intOf]; omega
        | false =>
          rw [hpx] at HI
          have HE := Lib.hid (fiT_no HX.out hpx)
          clear hpx
          go_wp2_with fail
          refine HI.out.mono ?_
          rintro e w3 ⟨rfl, hw3⟩
          rw [hw3]
          clear hw3
          go_wp2
          go_roundw
          case rel => exact ⟨i + 1, k, A', c', rfl, by go_num, hlt, by rw [HE.out]; exact HT.out, by omega, HBW.out⟩
          case measure => simp only [intOf]; omega
      · have hge : ¬ (i : Int) < (n : Int) := by omega
        obtain rfl : i = n := by omega
        obtain ⟨A2, c2, e2, h2, _⟩ := tx_of_own HT.out (HOF.out i)
        injection e2 with e2 _ e3
        subst e2 e3
        rw [HO.out] at h2
        have H2 := Lib.hid h2
        have hk := h2.len
        have hw : IntKind.i64.wrap ((i : Int) - (k : Int)) = Z := by rw [← HZ.out, hk, IntWalk.i64_in _ (by omega)]
        clear ht hbw hk h2
        go_wp2
        go_ret3
        exact ⟨A', k, c', rfl, H2.out, HBW.out⟩
  · unfold delX delN
    rw [if_neg hr, if_neg hr]
    rw [ckX_no hr] at HC ⊢
    clear ha hb hr hM
    go_enter Try.func22, Try.ntmps22
    go_wp2_with fail
    refine HC.out.mono ?_
    rintro e w1 ⟨rfl, hb1⟩
    have HB1 := Lib.hid hb1
    clear hb1
    go_wp2
    go_ret3
    exact ⟨none, 0, 0, rfl, TxAt.nil _, HB1.out⟩

end Go.Proofs.Ytkobhlhkkpnmkaa
