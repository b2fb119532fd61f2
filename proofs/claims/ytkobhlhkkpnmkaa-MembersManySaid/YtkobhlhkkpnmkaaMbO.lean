/-
  Package members' ofFirst, Meet, Less. Conditions: the rows lie in memory.
-/
import Derived.Test.YtkobhlhkkpnmkaaMbW
import Derived.Test.YtkobhlhkkpnmkaaMbI
namespace Go.Proofs.Ytkobhlhkkpnmkaa
open Go.RowKit

theorem im_store2 {w : World} {mb N : Nat} {g : Tx → Option Int} (h : IMap w mb N g) (S : ByteArray) (hS : S.size ≤ 9223372036854775807) (hN : N < 9223372036854775807) (z : Int) :
    ∃ w', (Instr.mapUpdate 52 (.map (some mb)) (.string S) (.int .i64 z)).run Try.prog w = .ok () w' ∧
      IMap w' mb (N + 1) (fun m => if m = S.data.toList then some z else g m) ∧ (∀ M, M ≤ mb → Below M w w') ∧ (∀ k, k < w.heap.size → k ≠ mb → w'.heap[k]? = w.heap[k]?) := by
  obtain ⟨D, h1, h2, h3⟩ := h
  obtain ⟨w', hrun, q1, q2⟩ := h1.store im_law Try.underlying52 (by unfold maxLen; omega) (im_key hS) (val := .int .i64 z) (d := .held z) (ps := []) rfl
  obtain ⟨os, tape, out, sz, bl⟩ := q2.grown
  refine ⟨w', hrun, ⟨_, q1, fun m => ?_, fun m => ?_⟩, fun M hM => ⟨os, tape, out, sz, fun k hk => bl k (by have := h1.lt; omega) (fun e => by cases e; omega)⟩, fun k hk hne => bl k hk (fun e => hne (by cases e; rfl))⟩
  · by_cases e : m = S.data.toList
    · dsimp only; rw [if_pos e, e, Maps.atKey_put_same (k := .string S.data.toList) (h1.isMap) trivial]
      rfl
    · dsimp only; rw [if_neg e, Maps.atKey_put_other (im_ne e)]
      exact h2 m
  · by_cases e : m = S.data.toList
    · dsimp only; rw [if_pos e, e, Maps.has_put_same (k := .string S.data.toList) (h1.isMap) trivial]
      rfl
    · dsimp only; rw [if_neg e, Maps.has_put_other (im_ne e)]
      exact h3 m

/-- How many of some rows have a text. -/
def cnt (R : List Rw) (x : Tx) : Nat := (R.filter fun r => decide (x ∈ r.L)).length
theorem cnt_le (R : List Rw) (x : Tx) : cnt R x ≤ R.length := List.length_filter_le _ _
theorem cnt_all (R : List Rw) (x : Tx) : cnt R x = R.length ↔ ∀ r ∈ R, x ∈ r.L := by
  unfold cnt
  rw [List.length_filter_eq_length_iff]
  simp
theorem cnt_none (R : List Rw) (x : Tx) : cnt R x = 0 ↔ ∀ r ∈ R, x ∉ r.L := by
  unfold cnt
  rw [List.length_eq_zero_iff, List.filter_eq_nil_iff]
  simp

theorem nodup_ris {l : List Tx} (h : Ris l) : l.Nodup := h.imp (fun {a b} (hab : a < b) (e : a = b) => tx_irrefl b (by rw [e] at hab; exact hab))

/-- What the tally tells behind i rows and j texts of the next one. -/
def tlC (L : List Tx) (R : List Rw) (i : Nat) (K : List Tx) (j : Nat) (m : Tx) : Option Int := if m ∈ L then some ((cnt (R.take i) m : Int) + (if m ∈ K.take j then 1 else 0)) else none
theorem tlC_start (L : List Tx) (R : List Rw) (K : List Tx) (m : Tx) : (if m ∈ L then some (0 : Int) else none) = tlC L R 0 K 0 m := by
  unfold tlC cnt
  simp
theorem tlC_more {L : List Tx} {R : List Rw} {i : Nat} {K : List Tx} (hK : K.Nodup) {j : Nat} {x : Tx} (hx : K[j]? = some x) (hL : x ∈ L) (m : Tx) : (if m = x then some (((tlC L R i K j x).getD 0) + 1) else tlC L R i K j m) = tlC L R i K (j + 1) m := by
  have hnot : ¬ x ∈ K.take j := fun hm => by
    obtain ⟨q, hq⟩ := List.mem_iff_getElem?.1 hm
    rw [List.getElem?_take] at hq
    split at hq
    · rename_i hlt
      obtain ⟨h1, e1⟩ := List.getElem?_eq_some_iff.1 hq
      obtain ⟨h2, e2⟩ := List.getElem?_eq_some_iff.1 hx
      exact List.pairwise_iff_getElem.1 hK q j h1 h2 hlt (e1.trans e2.symm)
    · cases hq
  by_cases e : m = x
  · subst e
    unfold tlC
    rw [if_pos rfl, if_pos hL, if_pos hL, if_neg hnot, List.take_add_one, hx, if_pos (by simp)]
    simp
  · rw [if_neg e]
    unfold tlC
    rw [List.take_add_one, hx]
    simp [e]
theorem tlC_skip {L : List Tx} {R : List Rw} {i : Nat} {K : List Tx} {j : Nat} {x : Tx} (hx : K[j]? = some x) (hL : ¬ x ∈ L) (m : Tx) : tlC L R i K j m = tlC L R i K (j + 1) m := by
  unfold tlC
  by_cases hm : m ∈ L
  · have e : m ≠ x := fun e => hL (e ▸ hm)
    rw [if_pos hm, if_pos hm, List.take_add_one, hx]
    simp [e]
  · rw [if_neg hm, if_neg hm]
theorem tlC_next {L : List Tx} {R : List Rw} {i : Nat} {r : Rw} (hr : R[i]? = some r) {n : Nat} (hn : r.L.length = n) (K' : List Tx) (m : Tx) : tlC L R i r.L n m = tlC L R (i + 1) K' 0 m := by
  unfold tlC cnt
  rw [show r.L.take n = r.L from List.take_of_length_le (by omega), List.take_add_one, hr, List.filter_append, List.length_append]
  by_cases hm : m ∈ L
  · rw [if_pos hm, if_pos hm]
    by_cases hx : m ∈ r.L
    · simp [hx]
    · simp [hx]
  · rw [if_neg hm, if_neg hm]
theorem tlC_end {L : List Tx} {R : List Rw} {n : Nat} (hn : R.length = n) (K : List Tx) (m : Tx) : tlC L R n K 0 m = if m ∈ L then some (cnt R m : Int) else none := by
  unfold tlC
  rw [List.take_of_length_le (by omega)]
  simp

/-- Of the first row those that so many of the others have. -/
def ffX (S : List Rw) (z : Int) : List Tx :=
  match S with
  | [] => []
  | r :: R => if ∀ q ∈ r :: R, Ris q.L then r.L.filter (fun x => decide ((cnt R x : Int) = z)) else []

set_option maxRecDepth 100000 in
set_option maxHeartbeats 8000000 in
theorem ffC_any {g h mb N : Nat} {K : List Tx} {R : List Rw} (z : Int) (x : Tx) (w : World) (hg : w.cell? ⟨g, 0, none⟩ = some (.map (some mb))) (hz : w.cell? ⟨h, 0, none⟩ = some (.int .i64 z)) (hm : IMap w mb N (fun m => if m ∈ K then some (cnt R m : Int) else none)) (hxK : x ∈ K) (hx : x.length ≤ 140737488355328) :
    Calls Try.prog 58 #[.string ⟨x.toArray⟩, .pointer (some ⟨g, 0, none⟩), .pointer (some ⟨h, 0, none⟩)] w fun e w' => e = .returned (.bool (decide ((cnt R x : Int) = z))) ∧ w' = w := by
  have hl := im_look hm ⟨x.toArray⟩ (by rw [mk_size]; omega)
  rw [mk_toList, if_pos hxK] at hl
  obtain ⟨T, hT⟩ : ∃ T : ByteArray, (⟨x.toArray⟩ : ByteArray) = T := ⟨_, rfl⟩
  rw [hT] at hl ⊢
  obtain ⟨c, hc⟩ : ∃ c : Int, (cnt R x : Int) = c := ⟨_, rfl⟩
  rw [hc] at hl ⊢
  have hl2 : (Instr.lookup 52 (.map (some mb)) (.string T) false).run Try.prog w = .ok (.int .i64 c) w := hl
  clear hm hx hT hc hl hxK
  go_enter Try.func58, Try.ntmps58
  go_wp2
  go_ret
  by_cases q : c = z
  · subst q; exact ⟨by simp, rfl⟩
  · exact ⟨by simp [q], rfl⟩

set_option maxRecDepth 100000 in
set_option maxHeartbeats 16000000 in
theorem ofFirst_any {A : Option Addr} {n cp : Nat} {S : List Rw} (w : World) (h : TtAt w A n cp S) (hn : n ≤ 20) (hs : Sml S 1000) (z : Int) :
    Calls Try.prog 46 #[.slice A n cp, .int .i64 z] w fun e w' => ∃ A' k c', e = .returned (.tuple #[.slice A' k c', .int .i64 (ckA S)]) ∧ TxAt w' A' k c' (ffX S z) ∧ Below w.heap.size w w' := by
  obtain ⟨M, hM⟩ : ∃ M, w.heap.size = M := ⟨_, rfl⟩
  have HM := Lib.hid hM
  obtain ⟨w0, hw0⟩ : ∃ w0, w.alloc (.cells #[.int .i64 z] 3) = w0 := ⟨_, rfl⟩
  have hb0 : Below M w w0 := by rw [← hw0, ← hM]; exact (Below.refl _ _).alloc (Nat.le_refl _) _
  have hbox : w0.rowIs M 3 1 (fun _ => .int .i64 z) := by
    rw [← hw0, ← hM]
    exact World.rowIs_alloc w #[.int .i64 z] 3 (fun _ => .int .i64 z) (fun i hi => by
      have hi : i < 1 := hi
      obtain rfl : i = 0 := by omega
      rfl)
  have HBOX := Lib.hid hbox
  have HB0 := Lib.hid hb0
  have HW0 := Lib.hid hw0
  have h0 := h.below (w' := w0) (by rw [hM]; exact hb0)
  have HC := Lib.hid (chkAll_any w0 h0 (by omega) (fun r hr => Nat.le_trans (hs r hr) (by omega)))
  have HL := Lib.hid h
  have HSM := Lib.hid hs
  by_cases hr : ∀ r ∈ S, Ris r.L
  · rw [ckA_ok hr] at HC ⊢
    rcases S with _ | ⟨r, R⟩
    · obtain rfl : n = 0 := h.len.symm
      rw [show ffX [] z = [] from rfl, hM]
      clear h h0 hr hs hb0 hw0 hbox hM
      go_enter Try.func46, Try.ntmps46
      go_wp2_with fail
      rw [HW0.out]
      refine HC.out.mono ?_
      rintro e w1 ⟨rfl, hb1⟩
      have HB1 : Hid (Below M w w1) := HB0.out.trans (hb1.mono (by have := HB0.out.size; have := HM.out; omega))
      clear hb1
      go_wp2
      go_ret2
      exact ⟨none, 0, 0, rfl, TxAt.nil _, HB1.out⟩
    · obtain ⟨m, hm⟩ : ∃ m, R.length = m := ⟨_, rfl⟩
      have hln := h.len
      rw [List.length_cons, hm] at hln
      subst hln
      have hn0 : ¬ (m : Int) + 1 = 0 := by omega
      have hn0b : ((m : Int) + 1 == 0) = false := by rw [beq_eq_false_iff_ne]; exact hn0
      have hn1 : (1 : Int) ≤ (m : Int) + 1 := by omega
      have hle := h.le
      have hmx := h.max
      have hn2 : (m : Int) + 1 ≤ (cp : Int) := by omega
      have hn3 : (1 : Int) ≤ (cp : Int) := by omega
      have hn4 : (0 : Int) < (m : Int) + 1 := by omega
      obtain ⟨b, o, rfl, hbl, hc⟩ := h.at_ (by omega)
      have HCR : Hid (∀ X, Below M w X → X.cell? ⟨b, o, none⟩ = some (.slice r.A r.n r.c)) := fun X hX => (hX.cell (p := ⟨b, o, none⟩) (by show b < M; omega)).trans (by have := hc 0 r rfl; rw [Nat.add_zero] at this; exact this)
      have HR0 := Lib.hid (h.rows r (List.mem_cons_self ..))
      have HRn : Hid (r.n ≤ 1000) := hs r (List.mem_cons_self ..)
      have hrest := h.rest (i := 1) (by omega)
      have HRIS : Hid (∀ q ∈ R, Ris q.L) := fun q hq => hr q (List.mem_cons_of_mem _ hq)
      have HRSM : Hid (∀ q ∈ R, q.n ≤ 1000) := fun q hq => hs q (List.mem_cons_of_mem _ hq)
      have HFF : Hid (ffX (r :: R) z = r.L.filter (fun x => decide ((cnt R x : Int) = z))) := if_pos hr
      obtain ⟨RA, hRA⟩ : ∃ RA, r.A = RA := ⟨_, rfl⟩
      obtain ⟨Rn, hRn⟩ : ∃ Rn, r.n = Rn := ⟨_, rfl⟩
      obtain ⟨Rc, hRc⟩ : ∃ Rc, r.c = Rc := ⟨_, rfl⟩
      obtain ⟨RL, hRL⟩ : ∃ RL, r.L = RL := ⟨_, rfl⟩
      rw [hRA, hRn, hRc] at HCR
      rw [hRA, hRn, hRc, hRL] at HR0
      rw [hRn] at HRn
      rw [hRL] at HFF
      rw [HFF.out]
      obtain ⟨p, hp⟩ : ∃ p : Tx → Bool, (fun x => decide ((cnt R x : Int) = z)) = p := ⟨_, rfl⟩
      have HP : Hid (∀ x, decide ((cnt R x : Int) = z) = p x) := fun x => by rw [← hp]
      rw [hp, hM]
      have hRb : Rn ≤ 1000 := HRn.out
      have hOl : (RL.filter p).length ≤ 1000 := by have := List.length_filter_le p RL; have := HR0.out.len; omega
      obtain ⟨O, hO⟩ : ∃ O, RL.filter p = O := ⟨_, rfl⟩
      have HO := Lib.hid hO
      rw [hO] at hOl ⊢
      have HOl := Lib.hid hOl
      have HLm := Lib.hid hm
      have hmb : m ≤ 20 := by omega
      by_cases hcp : cp = 1
      · obtain rfl : m = 0 := by omega
        subst hcp
        obtain rfl : R = [] := List.eq_nil_of_length_eq_zero hm
        clear h h0 hr hs hb0 hw0 hbox hM hc hrest hRA hRc hRL hp hm hO hOl hRn
        go_enter Try.func46, Try.ntmps46
        go_wp2_with fail
        rw [HW0.out, HM.out]
        refine HC.out.mono ?_
        rintro e w1 ⟨rfl, hb1⟩
        have HB1 : Hid (Below M w w1) := HB0.out.trans (hb1.mono (by have := HB0.out.size; have := HM.out; omega))
        have HBX1 : Hid (w1.rowIs M 3 1 (fun _ => .int .i64 z)) := HBOX.out.of_block (hb1.block _ HBOX.out.lt)
        have cR := HCR.out w1 HB1.out
        clear hb1
        go_wp2_with fail
        refine (tally_any w1 (HR0.out.below (by rw [HM.out]; exact HB1.out)) (by omega)).mono ?_
        rintro e w2 ⟨rfl, h2, hb2⟩
        have HB2 : Hid (Below M w w2) := HB1.out.trans (hb2.mono (by have := HB1.out.size; have := HM.out; omega))
        have hMw1 : M < w1.heap.size := HBX1.out.lt
        have hbx2 : w2.rowIs M 3 1 (fun _ => .int .i64 z) := HBX1.out.of_block (hb2.block _ hMw1)
        obtain ⟨g, hg⟩ : ∃ g, w1.heap.size = g := ⟨_, rfl⟩
        obtain ⟨tb, htb⟩ : ∃ tb, w2.heap.size = tb := ⟨_, rfl⟩
        have hgtb : g < tb := by rw [← hg, ← htb]; exact h2.lt
        obtain ⟨wb, hwb⟩ : ∃ wb, w2.alloc (.cells #[.map (some g)] 52) = wb := ⟨_, rfl⟩
        have hbb : Below w2.heap.size w2 wb := by rw [← hwb]; exact (Below.refl _ _).alloc (Nat.le_refl _) _
        have HBB : Hid (Below M w wb) := HB2.out.trans (hbb.mono (by omega))
        have HTB : Hid (wb.rowIs tb 52 1 (fun _ => .map (some g))) := by
          unfold Hid
          rw [← hwb, ← htb]
          exact World.rowIs_alloc w2 #[.map (some g)] 52 (fun _ => .map (some g)) (fun i hi => by
            have hi : i < 1 := hi
            obtain rfl : i = 0 := by omega
            rfl)
        have HBXB : Hid (wb.rowIs M 3 1 (fun _ => .int .i64 z)) := hbx2.of_block (hbb.block _ hbx2.lt)
        have HIB : Hid (IMap wb g Rn (tlC RL [] 0 [] 0)) := by
          have q := (h2.below hbb).congr (fun m => tlC_start RL [] [] m)
          rw [hg] at q
          exact q
        have HWB := Lib.hid hwb
        have HGG := Lib.hid hg
        have HTT := Lib.hid htb
        have HMG : Hid (M < g) := by unfold Hid; rw [← hg]; exact hMw1
        have HGTB := Lib.hid hgtb
        have htb0 : wb.cell? ⟨tb, 0, none⟩ = some (.map (some g)) := HTB.out.cell (i := 0) Nat.one_pos
        clear h2 hb2 hbx2 hwb hbb hgtb hMw1
        go_wp2_with fail
        rw [HWB.out]
        clear hg htb cR
        go_loopw [31] (fun iv wr => iv = .int .i64 0 ∧ wr = wb) (fun _ _ => 0)
        case atStart => exact ⟨rfl, rfl⟩
        case round =>
          obtain ⟨rfl, rfl⟩ := hrel
          have HB := HBB
          have HBR := HBXB
          have HTR := HTB
          have HIR := HIB
          have HCL : Hid (∀ (x : Tx) (X : World), x.length ≤ 140737488355328 → x ∈ RL → Below wr.heap.size wr X → Calls Try.prog 58 #[.string ⟨x.toArray⟩, .pointer (some ⟨tb, 0, none⟩), .pointer (some ⟨M, 0, none⟩)] X fun e w' => e = .returned (.bool (p x)) ∧ w' = X) := fun x X hx hxK hX => by
            have q := ffC_any (K := RL) (R := []) z x X ((HTR.out.of_block (hX.block _ HTR.out.lt)).cell (i := 0) Nat.one_pos) ((HBR.out.of_block (hX.block _ HBR.out.lt)).cell (i := 0) Nat.one_pos) ((HIR.out.congr (fun m => tlC_end HLm.out [] m)).below hX) hxK hx
            rw [HP.out x] at q
            exact q
          have cR := HCR.out wr HB.out
          go_wp2_with fail
          refine (kept2 wr (HR0.out.below (by rw [HM.out]; exact HB.out)) (by omega) 58 ⟨tb, 0, none⟩ ⟨M, 0, none⟩ p (fun args X => by simp [callFunc, go_sem, Try.func58, Try.f58]) HCL.out).mono ?_
          rw [HO.out]
          rintro e w3 ⟨A3, k3, c3, rfl, h3, hb3⟩
          have H3 := Lib.hid h3
          have HB3 : Hid (Below M w w3) := HB.out.trans (hb3.mono (by have := HB.out.size; have := HM.out; omega))
          have HK3 := Lib.hid h3.len
          clear h3 hb3 cR
          go_wp2_with fail
          refine (copied_any w3 H3.out (by have := HOl.out; have := HK3.out; omega)).mono ?_
          rintro e w4 ⟨A4, c4, rfl, h4, hb4, _⟩
          have H4 := Lib.hid h4
          have HB4 : Hid (Below M w w4) := HB3.out.trans (hb4.mono (by have := HB3.out.size; have := HM.out; omega))
          clear h4 hb4
          go_wp2
          go_ret2
          exact ⟨A4, k3, c4, rfl, H4.out, HB4.out⟩
      · have hcp1 : ¬ cp = 1 := hcp
        rw [if_neg hcp, show (some (⟨b, o, none⟩ : Addr)).map (fun x => x.add 1) = some ⟨b, o + 1, none⟩ from by simp [Addr.add], Nat.add_sub_cancel] at hrest
        have HREST := Lib.hid hrest
        clear h h0 hr hs hb0 hw0 hbox hM hc hrest hRA hRc hRL hp hm hO hOl hRn
        go_enter Try.func46, Try.ntmps46
        go_wp2_with fail
        rw [HW0.out, HM.out]
        refine HC.out.mono ?_
        rintro e w1 ⟨rfl, hb1⟩
        have HB1 : Hid (Below M w w1) := HB0.out.trans (hb1.mono (by have := HB0.out.size; have := HM.out; omega))
        have HBX1 : Hid (w1.rowIs M 3 1 (fun _ => .int .i64 z)) := HBOX.out.of_block (hb1.block _ HBOX.out.lt)
        have cR := HCR.out w1 HB1.out
        clear hb1
        go_wp2_with fail
        refine (tally_any w1 (HR0.out.below (by rw [HM.out]; exact HB1.out)) (by omega)).mono ?_
        rintro e w2 ⟨rfl, h2, hb2⟩
        have HB2 : Hid (Below M w w2) := HB1.out.trans (hb2.mono (by have := HB1.out.size; have := HM.out; omega))
        have hMw1 : M < w1.heap.size := HBX1.out.lt
        have hbx2 : w2.rowIs M 3 1 (fun _ => .int .i64 z) := HBX1.out.of_block (hb2.block _ hMw1)
        obtain ⟨g, hg⟩ : ∃ g, w1.heap.size = g := ⟨_, rfl⟩
        obtain ⟨tb, htb⟩ : ∃ tb, w2.heap.size = tb := ⟨_, rfl⟩
        have hgtb : g < tb := by rw [← hg, ← htb]; exact h2.lt
        obtain ⟨wb, hwb⟩ : ∃ wb, w2.alloc (.cells #[.map (some g)] 52) = wb := ⟨_, rfl⟩
        have hbb : Below w2.heap.size w2 wb := by rw [← hwb]; exact (Below.refl _ _).alloc (Nat.le_refl _) _
        have HBB : Hid (Below M w wb) := HB2.out.trans (hbb.mono (by omega))
        have HTB : Hid (wb.rowIs tb 52 1 (fun _ => .map (some g))) := by
          unfold Hid
          rw [← hwb, ← htb]
          exact World.rowIs_alloc w2 #[.map (some g)] 52 (fun _ => .map (some g)) (fun i hi => by
            have hi : i < 1 := hi
            obtain rfl : i = 0 := by omega
            rfl)
        have HBXB : Hid (wb.rowIs M 3 1 (fun _ => .int .i64 z)) := hbx2.of_block (hbb.block _ hbx2.lt)
        have HIB : Hid (IMap wb g Rn (tlC RL R 0 [] 0)) := by
          have q := (h2.below hbb).congr (fun m => tlC_start RL R [] m)
          rw [hg] at q
          exact q
        have HWB := Lib.hid hwb
        have HGG := Lib.hid hg
        have HTT := Lib.hid htb
        have HMG : Hid (M < g) := by unfold Hid; rw [← hg]; exact hMw1
        have HGTB := Lib.hid hgtb
        have htb0 : wb.cell? ⟨tb, 0, none⟩ = some (.map (some g)) := HTB.out.cell (i := 0) Nat.one_pos
        clear h2 hb2 hbx2 hwb hbb hgtb hMw1
        go_wp2_with fail
        rw [HWB.out]
        clear hg htb cR
        go_loopw [31] (fun iv wr => ∃ i N : Nat, iv = .int .i64 i ∧ i ≤ m ∧ Below M w wr ∧ wr.rowIs M 3 1 (fun _ => .int .i64 z) ∧ wr.rowIs tb 52 1 (fun _ => .map (some g)) ∧ IMap wr g N (tlC RL R i [] 0) ∧ N ≤ 1000 + i * 1000) (fun iv _ => m - (intOf iv).toNat)
        case atStart => exact ⟨0, Rn, rfl, Nat.zero_le _, HBB.out, HBXB.out, HTB.out, HIB.out, by omega⟩
        case round =>
          obtain ⟨i, N, rfl, hi, hb, hbr, htr, hir, hN⟩ := hrel
          have HB := Lib.hid hb
          have HBR := Lib.hid hbr
          have HTR := Lib.hid htr
          have HIR := Lib.hid hir
          have htr0 := htr.cell (i := 0) Nat.one_pos
          by_cases hlt : i < m
          · obtain ⟨q, hq⟩ := HREST.out.get hlt
            obtain ⟨b2, o2, hA2, hbl2, hc2⟩ := (HREST.out.below (w' := wr) (by rw [HM.out]; exact hb)).at_ (by omega)
            injection hA2 with hA2
            injection hA2 with hA3 hA4
            subst hA3 hA4
            have c0 := hc2 i q hq
            have hlt' : (i : Int) < (m : Int) := by omega
            have HQR := Lib.hid (HREST.out.row hq)
            have hqn := HRSM.out q (List.mem_of_getElem? hq)
            have HND := Lib.hid (nodup_ris (HRIS.out q (List.mem_of_getElem? hq)))
            have HNX := Lib.hid (fun mm => tlC_next (L := RL) hq HQR.out.len [] mm)
            have HFI : Hid (∀ mm, tlC RL R i [] 0 mm = tlC RL R i q.L 0 mm) := fun mm => by unfold tlC; rfl
            obtain ⟨QA, hQA⟩ : ∃ QA, q.A = QA := ⟨_, rfl⟩
            obtain ⟨Qn, hQn⟩ : ∃ Qn, q.n = Qn := ⟨_, rfl⟩
            obtain ⟨Qc, hQc⟩ : ∃ Qc, q.c = Qc := ⟨_, rfl⟩
            obtain ⟨QL, hQL⟩ : ∃ QL, q.L = QL := ⟨_, rfl⟩
            rw [hQA, hQn, hQc] at c0
            rw [hQA, hQn, hQc, hQL] at HQR
            rw [hQn] at hqn HNX
            rw [hQL] at HND HNX HFI
            have HI0 : Hid (IMap wr g N (tlC RL R i QL 0)) := hir.congr HFI.out
            have HN := Lib.hid hN
            clear hq hc2 hQA hQn hQc hQL hb hbr htr hir hN
            go_wp2_with fail
            go_loopw [37] (fun jv wx => ∃ j N2 : Nat, jv = .int .i64 j ∧ j ≤ Qn ∧ Below M w wx ∧ wx.rowIs M 3 1 (fun _ => .int .i64 z) ∧ wx.rowIs tb 52 1 (fun _ => .map (some g)) ∧ IMap wx g N2 (tlC RL R i QL j) ∧ N2 ≤ N + j) (fun jv _ => Qn - (intOf jv).toNat)
            case atStart => exact ⟨0, N, rfl, Nat.zero_le _, HB.out, HBR.out, HTR.out, HI0.out, Nat.le_refl _⟩
            case round =>
              obtain ⟨j, N2, rfl, hj, hbx, hbrx, htrx, hirx, hN2⟩ := hrel
              have HBx := Lib.hid hbx
              have HBRx := Lib.hid hbrx
              have HTRx := Lib.hid htrx
              have HIRx := Lib.hid hirx
              have HN2 := Lib.hid hN2
              have t0 := htrx.cell (i := 0) Nat.one_pos
              by_cases hlj : j < Qn
              · obtain ⟨x, hx⟩ := HQR.out.get hlj
                obtain ⟨b3, o3, hA5, hbl3, hc3⟩ := (HQR.out.below (w' := wr) (by rw [HM.out]; exact hbx)).at_ (by omega)
                subst hA5
                have d0 := hc3 j x hx
                have hlj' : (j : Int) < (Qn : Int) := by omega
                have hfx := HQR.out.fit hx
                have hl2 := im_look2 hirx ⟨x.toArray⟩ (by rw [mk_size]; omega)
                have hl1 := im_look hirx ⟨x.toArray⟩ (by rw [mk_size]; omega)
                rw [mk_toList] at hl2 hl1
                by_cases hxL : x ∈ RL
                · have htrue : (tlC RL R i QL j x).isSome = true := by unfold tlC; rw [if_pos hxL]; rfl
                  rw [htrue] at hl2
                  obtain ⟨v, hv⟩ : ∃ v : Int, (tlC RL R i QL j x).getD 0 = v := ⟨_, rfl⟩
                  have hvb : 0 ≤ v ∧ v ≤ 1000 := by
                    rw [← hv]
                    unfold tlC
                    rw [if_pos hxL]
                    have q1 := cnt_le (R.take i) x
                    have q2 := List.length_take_le i R
                    simp only [Option.getD_some]
                    split <;> omega
                  have hwv : IntKind.i64.wrap (v + 1) = v + 1 := IntWalk.i64_in _ (by omega)
                  obtain ⟨w5, hrun, h5, h6, h7⟩ := im_store2 hirx ⟨x.toArray⟩ (by rw [mk_size]; omega) (by have := HN.out; omega) (v + 1)
                  rw [mk_toList] at h5
                  have H5 : Hid (IMap w5 g (N2 + 1) (tlC RL R i QL (j + 1))) := h5.congr (fun mm => by rw [← hv]; exact tlC_more HND.out hx hxL mm)
                  have HB5 : Hid (Below M w w5) := HBx.out.trans (h6 M (by have := HMG.out; omega))
                  have HBR5 : Hid (w5.rowIs M 3 1 (fun _ => .int .i64 z)) := HBRx.out.of_block (h7 M HBRx.out.lt (by have := HMG.out; omega))
                  have HTR5 : Hid (w5.rowIs tb 52 1 (fun _ => .map (some g))) := HTRx.out.of_block (h7 tb HTRx.out.lt (by have := HGTB.out; omega))
                  rw [hv] at hl1 hl2
                  obtain ⟨T, hT⟩ : ∃ T : ByteArray, (⟨x.toArray⟩ : ByteArray) = T := ⟨_, rfl⟩
                  rw [hT] at d0 hl1 hl2 hrun
                  clear hx hc3 hbx hbrx htrx hirx hN2 hfx htrue hv h5 h6 h7 hT hxL
                  go_wp2
                  go_roundw
                  case rel => exact ⟨j + 1, N2 + 1, by go_num, hlj, HB5.out, HBR5.out, HTR5.out, H5.out, by have := HN2.out; omega⟩
                  case measure => simp only [intOf]; omega
                · have hfalse : (tlC RL R i QL j x).isSome = false := by unfold tlC; rw [if_neg hxL]; rfl
                  rw [hfalse] at hl2
                  obtain ⟨v, hv⟩ : ∃ v : Int, (tlC RL R i QL j x).getD 0 = v := ⟨_, rfl⟩
                  rw [hv] at hl2
                  have H5 : Hid (IMap wr g N2 (tlC RL R i QL (j + 1))) := hirx.congr (fun mm => tlC_skip hx hxL mm)
                  obtain ⟨T, hT⟩ : ∃ T : ByteArray, (⟨x.toArray⟩ : ByteArray) = T := ⟨_, rfl⟩
                  rw [hT] at d0 hl2
                  clear hx hc3 hbx hbrx htrx hirx hN2 hfx hfalse hv hT hxL hl1
                  go_wp2
                  go_roundw
                  case rel => exact ⟨j + 1, N2, by go_num, hlj, HBx.out, HBRx.out, HTRx.out, H5.out, by have := HN2.out; omega⟩
                  case measure => simp only [intOf]; omega
              · have hgj : ¬ (j : Int) < (Qn : Int) := by omega
                obtain rfl : j = Qn := by omega
                have H5 : Hid (IMap wr g N2 (tlC RL R (i + 1) [] 0)) := hirx.congr HNX.out
                clear hbx hbrx htrx hirx hN2
                go_wp2
                go_roundw
                case rel => exact ⟨i + 1, N2, by go_num, hlt, HBx.out, HBRx.out, HTRx.out, H5.out, by have := HN2.out; have := HN.out; omega⟩
                case measure => simp only [intOf]; omega
          · have hge : ¬ (i : Int) < (m : Int) := by omega
            obtain rfl : i = m := by omega
            clear hb hbr htr hir hN
            have HCL : Hid (∀ (x : Tx) (X : World), x.length ≤ 140737488355328 → x ∈ RL → Below wr.heap.size wr X → Calls Try.prog 58 #[.string ⟨x.toArray⟩, .pointer (some ⟨tb, 0, none⟩), .pointer (some ⟨M, 0, none⟩)] X fun e w' => e = .returned (.bool (p x)) ∧ w' = X) := fun x X hx hxK hX => by
              have q := ffC_any (K := RL) (R := R) z x X ((HTR.out.of_block (hX.block _ HTR.out.lt)).cell (i := 0) Nat.one_pos) ((HBR.out.of_block (hX.block _ HBR.out.lt)).cell (i := 0) Nat.one_pos) ((HIR.out.congr (fun m => tlC_end HLm.out [] m)).below hX) hxK hx
              rw [HP.out x] at q
              exact q
            have cR := HCR.out wr HB.out
            go_wp2_with fail
            refine (kept2 wr (HR0.out.below (by rw [HM.out]; exact HB.out)) (by omega) 58 ⟨tb, 0, none⟩ ⟨M, 0, none⟩ p (fun args X => by simp [callFunc, go_sem, Try.func58, Try.f58]) HCL.out).mono ?_
            rw [HO.out]
            rintro e w3 ⟨A3, k3, c3, rfl, h3, hb3⟩
            have H3 := Lib.hid h3
            have HB3 : Hid (Below M w w3) := HB.out.trans (hb3.mono (by have := HB.out.size; have := HM.out; omega))
            have HK3 := Lib.hid h3.len
            clear h3 hb3 cR
            go_wp2_with fail
            refine (copied_any w3 H3.out (by have := HOl.out; have := HK3.out; omega)).mono ?_
            rintro e w4 ⟨A4, c4, rfl, h4, hb4, _⟩
            have H4 := Lib.hid h4
            have HB4 : Hid (Below M w w4) := HB3.out.trans (hb4.mono (by have := HB3.out.size; have := HM.out; omega))
            clear h4 hb4
            go_wp2
            go_ret2
            exact ⟨A4, k3, c4, rfl, H4.out, HB4.out⟩
  · rw [ckA_no hr] at HC ⊢
    have hff : ffX S z = [] := by
      rcases S with _ | ⟨r, R⟩
      · rfl
      · exact if_neg hr
    rw [hff, hM]
    clear h h0 hr hs hb0 hw0 hbox hM hff
    go_enter Try.func46, Try.ntmps46
    go_wp2_with fail
    rw [HW0.out]
    refine HC.out.mono ?_
    rintro e w1 ⟨rfl, hb1⟩
    have HB1 : Hid (Below M w w1) := HB0.out.trans (hb1.mono (by have := HB0.out.size; have := HM.out; omega))
    clear hb1
    go_wp2
    go_ret2
    exact ⟨none, 0, 0, rfl, TxAt.nil _, HB1.out⟩

end Go.Proofs.Ytkobhlhkkpnmkaa
