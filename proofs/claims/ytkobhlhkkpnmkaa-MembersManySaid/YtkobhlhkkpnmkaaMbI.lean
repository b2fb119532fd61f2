/-
  Package members: tallyOf, kept, Del. Conditions: the rows lie in memory.
-/
import Derived.Test.YtkobhlhkkpnmkaaMbN
import Derived.Test.YtkobhlhkkpnmkaaMbC
import Derived.Test.YtkobhlhkkpnmkaaMbH
namespace Go.Proofs.Ytkobhlhkkpnmkaa
open Go.RowKit

/-- What a tally of the first texts tells. -/
def tlG (L : List Tx) (i : Nat) (m : Tx) : Option Int := if m ∈ L.take i then some 0 else none
theorem tlG_zero (L : List Tx) (m : Tx) : tlG L 0 m = none := by unfold tlG; simp
theorem tlG_all {L : List Tx} {n : Nat} (h : L.length = n) (m : Tx) : tlG L n m = if m ∈ L then some 0 else none := by unfold tlG; rw [List.take_of_length_le (by omega)]
theorem tlG_succ {L : List Tx} {i : Nat} {x : Tx} (hx : L[i]? = some x) (m : Tx) : (if m = x then some 0 else tlG L i m) = tlG L (i + 1) m := by
  unfold tlG
  rw [List.take_add_one, hx]
  by_cases e : m = x
  · simp [e]
  · simp [e]

theorem run_makeMap_hint (n : Nat) (w : World) : (Instr.makeMap 52 (some (.int .i64 (n : Int)))).run Try.prog w = .ok (.map (some w.heap.size)) (w.alloc (.map #[] 0)) := by
  simp [Instr.makeMap, run_underlying Try.underlying52, asInt, asIntOf, Result.andThen]

theorem mk_size (x : Tx) : (⟨x.toArray⟩ : ByteArray).size = x.length := by show x.toArray.size = _; simp
theorem mk_toList (x : Tx) : (⟨x.toArray⟩ : ByteArray).data.toList = x := by simp

set_option maxRecDepth 100000 in
set_option maxHeartbeats 16000000 in
theorem tally_any {A : Option Addr} {n cp : Nat} {L : List Tx} (w : World) (h : TxAt w A n cp L) (hn : n ≤ 3000000) :
    Calls Try.prog 40 #[.slice A n cp] w fun e w' => e = .returned (.map (some w.heap.size)) ∧ IMap w' w.heap.size n (fun m => if m ∈ L then some 0 else none) ∧ Below w.heap.size w w' := by
  have HL := Lib.hid h
  have HG := Lib.hid (fun m => tlG_all h.len m)
  obtain ⟨M, hM⟩ : ∃ M, w.heap.size = M := ⟨_, rfl⟩
  have HM := Lib.hid hM
  have HI0 : Hid (IMap (w.alloc (.map #[] 0)) M 0 (tlG L 0)) := by
    have q := (im_made w).congr (fun m => (tlG_zero L m).symm)
    rw [hM] at q
    exact q
  have HB0 : Hid (Below M w (w.alloc (.map #[] 0))) := by unfold Hid; rw [← hM]; exact (Below.refl _ _).alloc (Nat.le_refl _) _
  have hmk : (Instr.makeMap 52 (some (.int .i64 (n : Int)))).run Try.prog w = .ok (.map (some M)) (w.alloc (.map #[] 0)) := by rw [← hM]; exact run_makeMap_hint n w
  rw [hM]
  clear h hM
  go_enter Try.func40, Try.ntmps40
  go_wp2
  go_loopw [11] (fun iv wr => ∃ i : Nat, iv = .int .i64 i ∧ i ≤ n ∧ IMap wr M i (tlG L i) ∧ Below M w wr) (fun iv _ => n - (intOf iv).toNat)
  case atStart => exact ⟨0, rfl, Nat.zero_le _, HI0.out, HB0.out⟩
  case round =>
    obtain ⟨i, rfl, hi, hm, hb⟩ := hrel
    have HB := Lib.hid hb
    by_cases hlt : i < n
    · obtain ⟨x, hx⟩ := HL.out.get (j := i) hlt
      obtain ⟨b, o, rfl, hbl, hc⟩ := (HL.out.below (w' := wr) (by rw [HM.out]; exact hb)).at_ (by omega)
      have c0 := hc i x hx
      have hlt' : (i : Int) < (n : Int) := by omega
      obtain ⟨w2, hrun, h2, h3⟩ := im_store hm ⟨x.toArray⟩ (by have := HL.out.fit hx; rw [mk_size]; omega) (by omega) 0
      rw [mk_toList] at h2
      have H2 : Hid (IMap w2 M (i + 1) (tlG L (i + 1))) := h2.congr (tlG_succ hx)
      have HB2 : Hid (Below M w w2) := hb.trans (h3 M (Nat.le_refl _))
      obtain ⟨T, hT⟩ : ∃ T : ByteArray, (⟨x.toArray⟩ : ByteArray) = T := ⟨_, rfl⟩
      rw [hT] at c0 hrun
      clear hc hx hm hb h2 h3 hT
      go_wp2
      go_roundw
      case rel => exact ⟨i + 1, by go_num, hlt, H2.out, HB2.out⟩
      case measure => simp only [intOf]; omega
    · have hge : ¬ (i : Int) < (n : Int) := by omega
      obtain rfl : i = n := by omega
      have H2 := Lib.hid (hm.congr HG.out)
      clear hm hb
      go_wp2
      go_ret
      exact ⟨rfl, H2.out, HB.out⟩

set_option maxRecDepth 100000 in
set_option maxHeartbeats 16000000 in
/-- Those of a row that a closure keeps. -/
theorem kept1 {A : Option Addr} {n cp : Nat} {L : List Tx} (w : World) (h : TxAt w A n cp L) (hn : n ≤ 3000000) (F : FuncId) (a1 : Addr) (p : Tx → Bool)
    (hF : ∀ (args : Array Value) (X : World), (callFunc F args).run Try.prog X = .ok (.enter F args) X)
    (hp : ∀ (x : Tx) (X : World), x.length ≤ 140737488355328 → x ∈ L → Below w.heap.size w X → Calls Try.prog F #[.string ⟨x.toArray⟩, .pointer (some a1)] X fun e w' => e = .returned (.bool (p x)) ∧ w' = X) :
    Calls Try.prog 41 #[.slice A n cp, .func (.func F) #[] #[.pointer (some a1)]] w fun e w' => ∃ A' k c', e = .returned (.slice A' k c') ∧ TxAt w' A' k c' (L.filter p) ∧ Below w.heap.size w w' := by
  have HA := Lib.hid h
  have HO := Lib.hid (fiT_all p h.len)
  have HPP := Lib.hid hp
  obtain ⟨O, hO⟩ : ∃ O, L.filter p = O := ⟨_, rfl⟩
  rw [hO] at HO ⊢
  have HOF : Hid (∀ i, ∀ x ∈ fiT p L i, x.length ≤ 140737488355328) := fun i x hx => by
    unfold fiT at hx
    exact HA.out.fits x (List.mem_of_mem_take (List.mem_filter.1 hx).1)
  obtain ⟨M, hM⟩ : ∃ M, w.heap.size = M := ⟨_, rfl⟩
  have HM := Lib.hid hM
  rw [hM] at HPP ⊢
  clear h hO hM hp
  go_enter Try.func41, Try.ntmps41
  go_wp2
  go_loopw [5, 10] (fun sv iv wr => ∃ (i k : Nat) (A' : Option Addr) (c' : Nat), sv = .slice A' k c' ∧ iv = .int .i64 i ∧ i ≤ n ∧ wr.ownsRow M 9 1 (.slice A' k c') k ((fiT p L i).map encStr) ∧ k ≤ i ∧ Below M w wr) (fun _ iv _ => n - (intOf iv).toNat)
  case atStart => exact ⟨0, 0, none, 0, rfl, rfl, Nat.zero_le _, ⟨rfl, Or.inl ⟨rfl, rfl⟩⟩, Nat.le_refl _, Below.refl _ _⟩
  case round =>
    obtain ⟨i, k, A', c', rfl, rfl, hi, ht, hki, hbw⟩ := hrel
    have HT := Lib.hid ht
    have HBW := Lib.hid hbw
    by_cases hlt : i < n
    · obtain ⟨x, hx⟩ := HA.out.get (j := i) hlt
      obtain ⟨b, o, rfl, hbl, hc⟩ := (HA.out.below (w' := wr) (by rw [HM.out]; exact hbw)).at_ (by omega)
      have c0 := hc i x hx
      have hlt' : (i : Int) < (n : Int) := by omega
      have HI := Lib.hid (HPP.out x wr (HA.out.fit hx) (List.mem_of_getElem? hx) hbw)
      have HFX := Lib.hid (HA.out.fit hx)
      obtain ⟨T, hT⟩ : ∃ T : ByteArray, (⟨x.toArray⟩ : ByteArray) = T := ⟨_, rfl⟩
      have HTT := Lib.hid hT
      rw [hT] at c0 HI
      have HX := Lib.hid hx
      have hmw : M ≤ wr.heap.size := by have q := hbw.size; have q2 := HM.out; omega
      clear hc hx hT ht hbw
      cases hpx : p x with
      | true =>
        rw [hpx] at HI
        have HE := Lib.hid (fiT_yes HX.out hpx)
        have HW := Lib.hid (World.ownsRow.alloc (w := wr) HT.out (.cells #[.string T] 9))
        have HONE := Lib.hid (TxAt.one wr x wr.heap.size rfl HFX.out)
        rw [HTT.out] at HONE
        have hzw : M ≤ (wr.alloc (.cells #[.string T] 9)).heap.size := by rw [World.size_alloc]; omega
        have HBX : Hid (Below M w (wr.alloc (.cells #[.string T] 9))) := HBW.out.alloc hmw _
        clear hpx
        go_wp2_with fail
        refine HI.out.mono ?_
        rintro e w3 ⟨rfl, hw3⟩
        rw [hw3]
        clear hw3
        go_wp2_with (at_builtin; refine wpList_append_tx rfl _ _ rfl M (.slice A' k c') k (fiT p L i) rfl HW.out (some ⟨wr.heap.size, 0, none⟩) 1 1 [x] rfl HONE.out (by omega) hzw ?_)
        intro v5 w5 hown hgr
        unfold TxO at hown
        obtain ⟨A5, c5, rfl⟩ := own_slice hown
        have HO5 : Hid (w5.ownsRow M 9 1 (.slice A5 (k + 1) c5) (k + 1) ((fiT p L (i + 1)).map encStr)) := by unfold Hid; rw [HE.out]; exact hown
        have HB5 : Hid (Below M w w5) := HBX.out.grown hgr hzw (fun k e => (HW.out.lt k e).1)
        clear hown hgr
        go_wp2
        go_roundw
        case rel => exact ⟨i + 1, k + 1, A5, c5, rfl, by go_num, hlt, HO5.out, by omega, HB5.out⟩
        case measure => simp only [intOf]; omega
      | false =>
        rw [hpx] at HI
        have HE := Lib.hid (fiT_no HX.out hpx)
        clear hpx
        go_wp2_with fail
        refine HI.out.mono ?_
        rintro e w3 ⟨rfl, hw3⟩
        rw [hw3]
        clear hw3
        go_wp2
        go_roundw
        case rel => exact ⟨i + 1, k, A', c', rfl, by go_num, hlt, by rw [HE.out]; exact HT.out, by omega, HBW.out⟩
        case measure => simp only [intOf]; omega
    · have hge : ¬ (i : Int) < (n : Int) := by omega
      obtain rfl : i = n := by omega
      obtain ⟨A2, c2, e2, h2, _⟩ := tx_of_own HT.out (HOF.out i)
      injection e2 with e2 _ e3
      subst e2 e3
      rw [HO.out] at h2
      have H2 := Lib.hid h2
      clear ht hbw h2
      go_wp2
      go_ret
      exact ⟨A', k, c', rfl, H2.out, HBW.out⟩

set_option maxRecDepth 100000 in
set_option maxHeartbeats 16000000 in
/-- Those of a row that a closure keeps. -/
theorem kept2 {A : Option Addr} {n cp : Nat} {L : List Tx} (w : World) (h : TxAt w A n cp L) (hn : n ≤ 3000000) (F : FuncId) (a1 a2 : Addr) (p : Tx → Bool)
    (hF : ∀ (args : Array Value) (X : World), (callFunc F args).run Try.prog X = .ok (.enter F args) X)
    (hp : ∀ (x : Tx) (X : World), x.length ≤ 140737488355328 → x ∈ L → Below w.heap.size w X → Calls Try.prog F #[.string ⟨x.toArray⟩, .pointer (some a1), .pointer (some a2)] X fun e w' => e = .returned (.bool (p x)) ∧ w' = X) :
    Calls Try.prog 41 #[.slice A n cp, .func (.func F) #[] #[.pointer (some a1), .pointer (some a2)]] w fun e w' => ∃ A' k c', e = .returned (.slice A' k c') ∧ TxAt w' A' k c' (L.filter p) ∧ Below w.heap.size w w' := by
  have HA := Lib.hid h
  have HO := Lib.hid (fiT_all p h.len)
  have HPP := Lib.hid hp
  obtain ⟨O, hO⟩ : ∃ O, L.filter p = O := ⟨_, rfl⟩
  rw [hO] at HO ⊢
  have HOF : Hid (∀ i, ∀ x ∈ fiT p L i, x.length ≤ 140737488355328) := fun i x hx => by
    unfold fiT at hx
    exact HA.out.fits x (List.mem_of_mem_take (List.mem_filter.1 hx).1)
  obtain ⟨M, hM⟩ : ∃ M, w.heap.size = M := ⟨_, rfl⟩
  have HM := Lib.hid hM
  rw [hM] at HPP ⊢
  clear h hO hM hp
  go_enter Try.func41, Try.ntmps41
  go_wp2
  go_loopw [5, 10] (fun sv iv wr => ∃ (i k : Nat) (A' : Option Addr) (c' : Nat), sv = .slice A' k c' ∧ iv = .int .i64 i ∧ i ≤ n ∧ wr.ownsRow M 9 1 (.slice A' k c') k ((fiT p L i).map encStr) ∧ k ≤ i ∧ Below M w wr) (fun _ iv _ => n - (intOf iv).toNat)
  case atStart => exact ⟨0, 0, none, 0, rfl, rfl, Nat.zero_le _, ⟨rfl, Or.inl ⟨rfl, rfl⟩⟩, Nat.le_refl _, Below.refl _ _⟩
  case round =>
    obtain ⟨i, k, A', c', rfl, rfl, hi, ht, hki, hbw⟩ := hrel
    have HT := Lib.hid ht
    have HBW := Lib.hid hbw
    by_cases hlt : i < n
    · obtain ⟨x, hx⟩ := HA.out.get (j := i) hlt
      obtain ⟨b, o, rfl, hbl, hc⟩ := (HA.out.below (w' := wr) (by rw [HM.out]; exact hbw)).at_ (by omega)
      have c0 := hc i x hx
      have hlt' : (i : Int) < (n : Int) := by omega
      have HI := Lib.hid (HPP.out x wr (HA.out.fit hx) (List.mem_of_getElem? hx) hbw)
      have HFX := Lib.hid (HA.out.fit hx)
      obtain ⟨T, hT⟩ : ∃ T : ByteArray, (⟨x.toArray⟩ : ByteArray) = T := ⟨_, rfl⟩
      have HTT := Lib.hid hT
      rw [hT] at c0 HI
      have HX := Lib.hid hx
      have hmw : M ≤ wr.heap.size := by have q := hbw.size; have q2 := HM.out; omega
      clear hc hx hT ht hbw
      cases hpx : p x with
      | true =>
        rw [hpx] at HI
        have HE := Lib.hid (fiT_yes HX.out hpx)
        have HW := Lib.hid (World.ownsRow.alloc (w := wr) HT.out (.cells #[.string T] 9))
        have HONE := Lib.hid (TxAt.one wr x wr.heap.size rfl HFX.out)
        rw [HTT.out] at HONE
        have hzw : M ≤ (wr.alloc (.cells #[.string T] 9)).heap.size := by rw [World.size_alloc]; omega
        have HBX : Hid (Below M w (wr.alloc (.cells #[.string T] 9))) := HBW.out.alloc hmw _
        clear hpx
        go_wp2_with fail
        refine HI.out.mono ?_
        rintro e w3 ⟨rfl, hw3⟩
        rw [hw3]
        clear hw3
        go_wp2_with (at_builtin; refine wpList_append_tx rfl _ _ rfl M (.slice A' k c') k (fiT p L i) rfl HW.out (some ⟨wr.heap.size, 0, none⟩) 1 1 [x] rfl HONE.out (by omega) hzw ?_)
        intro v5 w5 hown hgr
        unfold TxO at hown
        obtain ⟨A5, c5, rfl⟩ := own_slice hown
        have HO5 : Hid (w5.ownsRow M 9 1 (.slice A5 (k + 1) c5) (k + 1) ((fiT p L (i + 1)).map encStr)) := by unfold Hid; rw [HE.out]; exact hown
        have HB5 : Hid (Below M w w5) := HBX.out.grown hgr hzw (fun k e => (HW.out.lt k e).1)
        clear hown hgr
        go_wp2
        go_roundw
        case rel => exact ⟨i + 1, k + 1, A5, c5, rfl, by go_num, hlt, HO5.out, by omega, HB5.out⟩
        case measure => simp only [intOf]; omega
      | false =>
        rw [hpx] at HI
        have HE := Lib.hid (fiT_no HX.out hpx)
        clear hpx
        go_wp2_with fail
        refine HI.out.mono ?_
        rintro e w3 ⟨rfl, hw3⟩
        rw [hw3]
        clear hw3
        go_wp2
        go_roundw
        case rel => exact ⟨i + 1, k, A', c', rfl, by go_num, hlt, by rw [HE.out]; exact HT.out, by omega, HBW.out⟩
        case measure => simp only [intOf]; omega
    · have hge : ¬ (i : Int) < (n : Int) := by omega
      obtain rfl : i = n := by omega
      obtain ⟨A2, c2, e2, h2, _⟩ := tx_of_own HT.out (HOF.out i)
      injection e2 with e2 _ e3
      subst e2 e3
      rw [HO.out] at h2
      have H2 := Lib.hid h2
      clear ht hbw h2
      go_wp2
      go_ret
      exact ⟨A', k, c', rfl, H2.out, HBW.out⟩

set_option maxRecDepth 100000 in
set_option maxHeartbeats 8000000 in
theorem delC_any {g mb N : Nat} {K : List Tx} (x : Tx) (w : World) (hg : w.cell? ⟨g, 0, none⟩ = some (.map (some mb))) (hm : IMap w mb N (fun m => if m ∈ K then some 0 else none)) (hx : x.length ≤ 140737488355328) :
    Calls Try.prog 42 #[.string ⟨x.toArray⟩, .pointer (some ⟨g, 0, none⟩)] w fun e w' => e = .returned (.bool (decide (x ∉ K))) ∧ w' = w := by
  have hl := im_look2 hm ⟨x.toArray⟩ (by rw [mk_size]; omega)
  rw [mk_toList] at hl
  obtain ⟨T, hT⟩ : ∃ T : ByteArray, (⟨x.toArray⟩ : ByteArray) = T := ⟨_, rfl⟩
  rw [hT] at hl ⊢
  have HX : Hid ((if x ∈ K then some (0 : Int) else none).isSome = !decide (x ∉ K)) := by by_cases q : x ∈ K <;> simp [Hid, q]
  have HZ : Hid (∃ z : Int, (if x ∈ K then some (0 : Int) else none).getD 0 = z) := ⟨_, rfl⟩
  obtain ⟨z, hz⟩ := HZ.out
  rw [hz, HX.out] at hl
  obtain ⟨B, hB⟩ : ∃ B, decide (x ∉ K) = B := ⟨_, rfl⟩
  rw [hB] at hl ⊢
  clear hm hx hT HX HZ hz hB
  go_enter Try.func42, Try.ntmps42
  go_wp2
  go_ret
  cases B <;> exact ⟨rfl, rfl⟩

end Go.Proofs.Ytkobhlhkkpnmkaa
