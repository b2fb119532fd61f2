/-
  The document's Meet and Less. Conditions: the rows lie in memory.
-/
import Derived.Test.YtkobhlhkkpnmkaaMbV
namespace Go.Proofs.Ytkobhlhkkpnmkaa
open Go.RowKit

/-- Do the rows ahead of the j-th (the first aside) all have it? Has one of them it? -/
def meB (R : List Rw) (x : Tx) (j : Nat) : Bool := (R.take (j - 1)).all fun q => decide (x ∈ q.L)
def leB (R : List Rw) (x : Tx) (j : Nat) : Bool := (R.take (j - 1)).any fun q => decide (x ∈ q.L)
theorem meB_one (R : List Rw) (x : Tx) : meB R x 1 = true := by simp [meB]
theorem leB_one (R : List Rw) (x : Tx) : leB R x 1 = false := by simp [leB]
theorem meB_succ {R : List Rw} {x : Tx} {j : Nat} {q : Rw} (hj : 1 ≤ j) (h : R[j - 1]? = some q) : meB R x (j + 1) = (meB R x j && decide (x ∈ q.L)) := by
  obtain ⟨i, rfl⟩ : ∃ i, j = i + 1 := ⟨j - 1, by omega⟩
  unfold meB
  rw [Nat.add_sub_cancel, Nat.add_sub_cancel, List.take_add_one]
  rw [Nat.add_sub_cancel] at h
  rw [h, List.all_append]
  simp
theorem leB_succ {R : List Rw} {x : Tx} {j : Nat} {q : Rw} (hj : 1 ≤ j) (h : R[j - 1]? = some q) : leB R x (j + 1) = (leB R x j || decide (x ∈ q.L)) := by
  obtain ⟨i, rfl⟩ : ∃ i, j = i + 1 := ⟨j - 1, by omega⟩
  unfold leB
  rw [Nat.add_sub_cancel, Nat.add_sub_cancel, List.take_add_one]
  rw [Nat.add_sub_cancel] at h
  rw [h, List.any_append]
  simp
theorem meB_all {R : List Rw} {n : Nat} (h : R.length + 1 = n) (x : Tx) : decide ((cnt R x : Int) = (n : Int) - 1) = meB R x n := by
  subst h
  unfold meB
  rw [Nat.add_sub_cancel, List.take_length, Bool.eq_iff_iff, decide_eq_true_iff, List.all_eq_true]
  simp only [decide_eq_true_eq]
  rw [← cnt_all]
  omega
theorem leB_all {R : List Rw} {n : Nat} (h : R.length + 1 = n) (x : Tx) : decide ((cnt R x : Int) = 0) = !leB R x n := by
  subst h
  unfold leB
  rw [Nat.add_sub_cancel, List.take_length, Bool.eq_iff_iff, decide_eq_true_iff, Bool.not_eq_true', List.any_eq_false]
  simp only [decide_eq_true_eq]
  rw [← cnt_none]
  omega

set_option maxRecDepth 100000 in
set_option maxHeartbeats 16000000 in
theorem rMeet_any {A : Option Addr} {n cp : Nat} {S : List Rw} (w : World) (h : TtAt w A n cp S) (hn : n ≤ 20) (hs : Sml S 1000) :
    Calls Try.prog 27 #[.slice A n cp] w fun e w' => ∃ A' k c', e = .returned (.tuple #[.slice A' k c', .int .i64 (ckA S)]) ∧ TxAt w' A' k c' (ffX S ((n : Int) - 1)) ∧ Below w.heap.size w w' := by
  have HC := Lib.hid (rsets_any w h (by omega) (fun r hr => Nat.le_trans (hs r hr) (by omega)))
  have HL := Lib.hid h
  have HSM := Lib.hid hs
  obtain ⟨M, hM⟩ : ∃ M, w.heap.size = M := ⟨_, rfl⟩
  have HM := Lib.hid hM
  by_cases hr : ∀ r ∈ S, Ris r.L
  · rw [ckA_ok hr]
    rw [decide_eq_true hr] at HC
    rcases S with _ | ⟨r, R⟩
    · obtain rfl : n = 0 := h.len.symm
      rw [show ffX [] (((0 : Nat) : Int) - 1) = [] from rfl]
      rw [hM] at HC ⊢
      clear h hs hr hM
      go_enter Try.func27, Try.ntmps27
      go_wp2_with fail
      refine HC.out.mono ?_
      rintro e w1 ⟨rfl, hb1⟩
      have HB1 := Lib.hid hb1
      clear hb1
      go_wp2_with fail
      go_loopw [4, 5] (fun ov iv wr => ov = .slice none 0 0 ∧ iv = .int .i64 0 ∧ wr = w1) (fun _ _ _ => 0)
      case atStart => exact ⟨rfl, rfl, rfl⟩
      case round =>
        obtain ⟨rfl, rfl, rfl⟩ := hrel
        go_wp2
        go_ret2
        exact ⟨none, 0, 0, rfl, TxAt.nil _, HB1.out⟩
    · have hln := h.len
      rw [List.length_cons] at hln
      have hn0 : (0 : Int) < (n : Int) := by omega
      obtain ⟨b, o, rfl, hbl, hc⟩ := h.at_ (by omega)
      have HCR : Hid (∀ X, Below M w X → X.cell? ⟨b, o, none⟩ = some (.slice r.A r.n r.c)) := fun X hX => (hX.cell (p := ⟨b, o, none⟩) (by show b < M; omega)).trans (by have := hc 0 r rfl; rw [Nat.add_zero] at this; exact this)
      have HCQ : Hid (∀ X, Below M w X → ∀ (j : Nat) (q : Rw), R[j - 1]? = some q → 1 ≤ j → X.cell? ⟨b, o + j, none⟩ = some (.slice q.A q.n q.c)) := fun X hX j q hq hj => (hX.cell (p := ⟨b, o + j, none⟩) (by show b < M; omega)).trans (hc j q (by
        obtain ⟨i, rfl⟩ : ∃ i, j = i + 1 := ⟨j - 1, by omega⟩
        rw [List.getElem?_cons_succ]
        exact hq))
      have HR0 := Lib.hid (h.rows r (List.mem_cons_self ..))
      have HRn : Hid (r.n ≤ 1000) := hs r (List.mem_cons_self ..)
      have HRL : Hid (R.length + 1 = n) := hln
      have HRQ : Hid (∀ (j : Nat) (q : Rw), R[j]? = some q → TxAt w q.A q.n q.c q.L ∧ q.n ≤ 1000) := fun j q hq => ⟨h.rows q (List.mem_cons_of_mem _ (List.mem_of_getElem? hq)), hs q (List.mem_cons_of_mem _ (List.mem_of_getElem? hq))⟩
      have HFF : Hid (ffX (r :: R) ((n : Int) - 1) = r.L.filter (fun x => (meB R x n))) := by
        unfold Hid
        simp only [ffX]
        rw [if_pos hr]
        exact List.filter_congr (fun x _ => meB_all hln x)
      obtain ⟨RA, hRA⟩ : ∃ RA, r.A = RA := ⟨_, rfl⟩
      obtain ⟨Rn, hRn⟩ : ∃ Rn, r.n = Rn := ⟨_, rfl⟩
      obtain ⟨Rc, hRc⟩ : ∃ Rc, r.c = Rc := ⟨_, rfl⟩
      obtain ⟨RL, hRL⟩ : ∃ RL, r.L = RL := ⟨_, rfl⟩
      rw [hRA, hRn, hRc] at HCR
      rw [hRA, hRn, hRc, hRL] at HR0
      rw [hRn] at HRn
      rw [hRL] at HFF
      rw [HFF.out]
      obtain ⟨p, hp⟩ : ∃ p : Tx → Bool, (fun x => (meB R x n)) = p := ⟨_, rfl⟩
      have HP : Hid (∀ x, (meB R x n) = p x) := fun x => by rw [← hp]
      rw [hp]
      have HO := Lib.hid (fiT_all p HR0.out.len)
      have HOL := Lib.hid (fun i => fiT_len p RL i)
      obtain ⟨O, hO⟩ : ∃ O, RL.filter p = O := ⟨_, rfl⟩
      rw [hO] at HO ⊢
      have HOF : Hid (∀ i, ∀ x ∈ fiT p RL i, x.length ≤ 140737488355328) := fun i x hx => by
        unfold fiT at hx
        exact HR0.out.fits x (List.mem_of_mem_take (List.mem_filter.1 hx).1)
      have hRb : Rn ≤ 1000 := HRn.out
      have hle := h.le
      have hmx := h.max
      rw [hM] at HC ⊢
      clear h hs hr hM hc hRA hRn hRc hRL hp hO hln
      go_enter Try.func27, Try.ntmps27
      go_wp2_with fail
      refine HC.out.mono ?_
      rintro e w1 ⟨rfl, hb1⟩
      have HB1 := Lib.hid hb1
      clear hb1
      go_wp2_with fail
      go_loopw [4, 5] (fun ov kv wr => ∃ (k c : Nat) (A' : Option Addr) (c' : Nat), ov = .slice A' c c' ∧ kv = .int .i64 k ∧ k ≤ Rn ∧ wr.ownsRow M 9 1 (.slice A' c c') c ((fiT p RL k).map encStr) ∧ c ≤ k ∧ Below M w wr) (fun _ kv _ => Rn - (intOf kv).toNat)
      case atStart => exact ⟨0, 0, none, 0, rfl, rfl, Nat.zero_le _, ⟨rfl, Or.inl ⟨rfl, rfl⟩⟩, Nat.le_refl _, HB1.out⟩
      case round =>
        obtain ⟨k, c, A', c', rfl, rfl, hk, ht, hck, hbw⟩ := hrel
        have HT := Lib.hid ht
        have HBW := Lib.hid hbw
        have cR := HCR.out wr hbw
        by_cases hlt : k < Rn
        · obtain ⟨x, hx⟩ := HR0.out.get hlt
          obtain ⟨b0, o0, rfl, hbl0, hc0⟩ := HR0.out.at_ (by omega)
          have hlt' : (k : Int) < (Rn : Int) := by omega
          have HFX := Lib.hid (HR0.out.fit hx)
          have HCT0 : Hid (∀ X, Below M w X → X.cell? ⟨b0, o0 + k, none⟩ = some (.string ⟨x.toArray⟩)) := fun X hX => (hX.cell (p := ⟨b0, o0 + k, none⟩) (by have := HM.out; show b0 < M; omega)).trans (hc0 k x hx)
          have HX := Lib.hid hx
          have HB0 := Lib.hid (meB_one R x)
          have HP0 := Lib.hid (HP.out x)
          obtain ⟨BF, hBF⟩ : ∃ BF : Nat → Bool, meB R x = BF := ⟨_, rfl⟩
          have HBS : Hid (∀ (j : Nat) (q : Rw), 1 ≤ j → R[j - 1]? = some q → BF (j + 1) = (BF j && decide (x ∈ q.L))) := fun j q hj hq => by rw [← hBF]; exact meB_succ hj hq
          rw [show meB R x 1 = BF 1 from by rw [hBF]] at HB0
          rw [show (meB R x n) = BF n from by rw [← hBF]] at HP0
          obtain ⟨T, hT⟩ : ∃ T : ByteArray, (⟨x.toArray⟩ : ByteArray) = T := ⟨_, rfl⟩
          have HTT := Lib.hid hT
          have HIN : Hid (∀ (q : Rw) (X : World), Below M w X → TxAt w q.A q.n q.c q.L → q.n ≤ 1000 → Calls Try.prog 34 #[.slice q.A q.n q.c, .string T] X fun e w' => e = .returned (.bool (decide (x ∈ q.L))) ∧ Below X.heap.size X w') := fun q X hX hq hq2 => by
            rw [← hT]
            refine (rin_any X (hq.below (by rw [HM.out]; exact hX)) (by omega) x).mono ?_
            rintro e w' ⟨q1, rfl⟩
            exact ⟨q1, Below.refl _ _⟩
          rw [hT] at HCT0
          clear hc0 hx hT hBF ht hbw
          go_wp2_with fail
          go_loopw [6, 7] (fun bv jv wx => ∃ j : Nat, bv = .bool (BF j) ∧ jv = .int .i64 j ∧ 1 ≤ j ∧ j ≤ n ∧ Below wr.heap.size wr wx) (fun _ jv _ => n - (intOf jv).toNat)
          case atStart => exact ⟨1, by rw [HB0.out], rfl, Nat.le_refl _, by omega, Below.refl _ _⟩
          case round =>
            obtain ⟨j, rfl, rfl, hj1, hj, hbx⟩ := hrel
            have HBX := Lib.hid hbx
            have HBM : Hid (Below M w wr) := HBW.out.trans (hbx.mono (by have := HBW.out.size; have := HM.out; omega))
            have a0 := HCR.out wr HBM.out
            have a1 := HCT0.out wr HBM.out
            by_cases hlj : j < n
            · obtain ⟨q, hq⟩ : ∃ q, R[j - 1]? = some q := ⟨_, List.getElem?_eq_getElem (by have := HRL.out; omega)⟩
              obtain ⟨hq1, hq2⟩ := HRQ.out _ q hq
              have HQ := Lib.hid (HBS.out j q hj1 hq)
              have hlj' : (j : Int) < (n : Int) := by omega
              have hj0 : (0 : Int) ≤ (j : Int) := by omega
              have HI : Hid (∀ X, Below wr.heap.size wr X → Calls Try.prog 34 #[.slice q.A q.n q.c, .string T] X fun e w' => e = .returned (.bool (decide (x ∈ q.L))) ∧ Below X.heap.size X w') := fun X hX => HIN.out q X (HBM.out.trans (hX.mono (by have := HBM.out.size; have := HM.out; omega))) hq1 hq2
              have HS : Hid (∀ X, Below wr.heap.size wr X → Below wr.heap.size wr X ∧ X.cell? ⟨b, o + j, none⟩ = some (.slice q.A q.n q.c) ∧ X.cell? ⟨b, o, none⟩ = some (.slice (some ⟨b0, o0, none⟩) Rn Rc) ∧ X.cell? ⟨b0, o0 + k, none⟩ = some (.string T)) := fun X hX => by
                have hX2 : Below M w X := HBM.out.trans (hX.mono (by have := HBM.out.size; have := HM.out; omega))
                exact ⟨hX, HCQ.out X hX2 j q hq hj1, HCR.out X hX2, HCT0.out X hX2⟩
              obtain ⟨QA, hQA⟩ : ∃ QA, q.A = QA := ⟨_, rfl⟩
              obtain ⟨Qn, hQn⟩ : ∃ Qn, q.n = Qn := ⟨_, rfl⟩
              obtain ⟨Qc, hQc⟩ : ∃ Qc, q.c = Qc := ⟨_, rfl⟩
              obtain ⟨D, hD⟩ : ∃ D, decide (x ∈ q.L) = D := ⟨_, rfl⟩
              rw [hD] at HQ HI
              rw [hQA, hQn, hQc] at HI HS
              have H0 : Hid (Below wr.heap.size wr wr) := Below.refl _ _
              clear hq hq1 hq2 hbx hQA hQn hQc hD
              cases hBj : BF j with
              | true =>
                rw [hBj] at HQ
                have HQ2 : Hid (D = BF (j + 1)) := by unfold Hid; rw [HQ.out]; cases D <;> rfl
                clear hBj
                go_wp2_with fail
                go_region_held3 (fun X => Below wr.heap.size wr X ∧ X.cell? ⟨b, o + j, none⟩ = some (.slice QA Qn Qc) ∧ X.cell? ⟨b, o, none⟩ = some (.slice (some ⟨b0, o0, none⟩) Rn Rc) ∧ X.cell? ⟨b0, o0 + k, none⟩ = some (.string T))
                  (first | exact HS.out _ HC1.out | exact HS.out _ H0.out.drew | exact HS.out _ H0.out)
                  (first | (go_at_call 34; refine Calls.mono (HI.out _ (by first | exact H0.out.drew | exact H0.out)) ?_; rintro en x1 ⟨rfl, hq⟩; have HC1 : Hid (Below wr.heap.size wr x1) := (by first | exact bup H0.out hq | exact (Below.refl _ _).drew.trans hq); clear hq))
                all_goals
                  try simp only [Act.put]
                  go_simp
                  go_wp2
                  go_roundw
                  case rel => exact ⟨j + 1, by rw [← HQ2.out], by go_num, by omega, hlj, bup HBX.out HC1.out⟩
                  case measure => simp only [intOf]; omega
              | false =>
                rw [hBj] at HQ
                have HQ2 : Hid (false = BF (j + 1)) := by unfold Hid; rw [HQ.out]; cases D <;> rfl
                clear hBj
                go_wp2_with fail
                go_region
                all_goals
                  try simp only [Act.put]
                  go_simp
                  go_wp2
                  go_roundw
                  case rel => exact ⟨j + 1, by rw [← HQ2.out], by go_num, by omega, hlj, by first | exact HBX.out.drew | exact HBX.out⟩
                  case measure => simp only [intOf]; omega
            · have hgj : ¬ (j : Int) < (n : Int) := by omega
              obtain rfl : j = n := by omega
              have hmw : M ≤ wr.heap.size := by have q := HBM.out.size; have q2 := HM.out; omega
              have HTx := Lib.hid (own_below HT.out hbx)
              clear hbx
              cases hBj : BF j with
              | true =>
                have hpx : p x = true := by rw [← HP0.out, hBj]; try rfl
                have HE := Lib.hid (fiT_yes HX.out hpx)
                have HW := Lib.hid (World.ownsRow.alloc (w := wr) HTx.out (.cells #[.string T] 9))
                have HONE := Lib.hid (TxAt.one wr x wr.heap.size rfl HFX.out)
                rw [HTT.out] at HONE
                have hzw : M ≤ (wr.alloc (.cells #[.string T] 9)).heap.size := by rw [World.size_alloc]; omega
                have HBA : Hid (Below M w (wr.alloc (.cells #[.string T] 9))) := HBM.out.alloc hmw _
                clear hpx hBj
                go_wp2_with (at_builtin; refine wpList_append_tx rfl _ _ rfl M (.slice A' c c') c (fiT p RL k) rfl HW.out (some ⟨wr.heap.size, 0, none⟩) 1 1 [x] rfl HONE.out (by omega) hzw ?_)
                intro v5 w5 hown hgr
                unfold TxO at hown
                obtain ⟨A5, c5, rfl⟩ := own_slice hown
                have HO5 : Hid (w5.ownsRow M 9 1 (.slice A5 (c + 1) c5) (c + 1) ((fiT p RL (k + 1)).map encStr)) := by unfold Hid; rw [HE.out]; exact hown
                have HB5 : Hid (Below M w w5) := HBA.out.grown hgr hzw (fun k e => (HW.out.lt k e).1)
                clear hown hgr
                go_wp2
                go_roundw
                case rel => exact ⟨k + 1, c + 1, A5, c5, rfl, by go_num, hlt, HO5.out, by omega, HB5.out⟩
                case measure => simp only [intOf]; omega
              | false =>
                have hpx : p x = false := by rw [← HP0.out, hBj]; try rfl
                have HE := Lib.hid (fiT_no HX.out hpx)
                clear hpx hBj
                go_wp2
                go_roundw
                case rel => exact ⟨k + 1, c, A', c', rfl, by go_num, hlt, by rw [HE.out]; exact HTx.out, by omega, HBM.out⟩
                case measure => simp only [intOf]; omega
        · have hge : ¬ (k : Int) < (Rn : Int) := by omega
          obtain rfl : k = Rn := by omega
          obtain ⟨A2, c2, e2, h2, _⟩ := tx_of_own HT.out (HOF.out k)
          injection e2 with e2 _ e3
          subst e2 e3
          rw [HO.out] at h2
          have H2 := Lib.hid h2
          clear ht hbw h2
          go_wp2
          go_ret2
          exact ⟨A', c, c', rfl, H2.out, HBW.out⟩
  · rw [ckA_no hr]
    rw [decide_eq_false hr] at HC
    rw [show ffX S ((n : Int) - 1) = [] from by
      rcases S with _ | ⟨r, R⟩
      · rfl
      · simp only [ffX]; rw [if_neg hr]]
    rw [hM] at HC ⊢
    clear h hs hr hM
    go_enter Try.func27, Try.ntmps27
    go_wp2_with fail
    refine HC.out.mono ?_
    rintro e w1 ⟨rfl, hb1⟩
    have HB1 := Lib.hid hb1
    clear hb1
    go_wp2
    go_ret2
    exact ⟨none, 0, 0, rfl, TxAt.nil _, HB1.out⟩

set_option maxRecDepth 100000 in
set_option maxHeartbeats 16000000 in
theorem rLess_any {A : Option Addr} {n cp : Nat} {S : List Rw} (w : World) (h : TtAt w A n cp S) (hn : n ≤ 20) (hs : Sml S 1000) :
    Calls Try.prog 29 #[.slice A n cp] w fun e w' => ∃ A' k c', e = .returned (.tuple #[.slice A' k c', .int .i64 (ckA S)]) ∧ TxAt w' A' k c' (ffX S 0) ∧ Below w.heap.size w w' := by
  have HC := Lib.hid (rsets_any w h (by omega) (fun r hr => Nat.le_trans (hs r hr) (by omega)))
  have HL := Lib.hid h
  have HSM := Lib.hid hs
  obtain ⟨M, hM⟩ : ∃ M, w.heap.size = M := ⟨_, rfl⟩
  have HM := Lib.hid hM
  by_cases hr : ∀ r ∈ S, Ris r.L
  · rw [ckA_ok hr]
    rw [decide_eq_true hr] at HC
    rcases S with _ | ⟨r, R⟩
    · obtain rfl : n = 0 := h.len.symm
      rw [show ffX [] 0 = [] from rfl]
      rw [hM] at HC ⊢
      clear h hs hr hM
      go_enter Try.func29, Try.ntmps29
      go_wp2_with fail
      refine HC.out.mono ?_
      rintro e w1 ⟨rfl, hb1⟩
      have HB1 := Lib.hid hb1
      clear hb1
      go_wp2_with fail
      go_loopw [4, 5] (fun ov iv wr => ov = .slice none 0 0 ∧ iv = .int .i64 0 ∧ wr = w1) (fun _ _ _ => 0)
      case atStart => exact ⟨rfl, rfl, rfl⟩
      case round =>
        obtain ⟨rfl, rfl, rfl⟩ := hrel
        go_wp2
        go_ret2
        exact ⟨none, 0, 0, rfl, TxAt.nil _, HB1.out⟩
    · have hln := h.len
      rw [List.length_cons] at hln
      have hn0 : (0 : Int) < (n : Int) := by omega
      obtain ⟨b, o, rfl, hbl, hc⟩ := h.at_ (by omega)
      have HCR : Hid (∀ X, Below M w X → X.cell? ⟨b, o, none⟩ = some (.slice r.A r.n r.c)) := fun X hX => (hX.cell (p := ⟨b, o, none⟩) (by show b < M; omega)).trans (by have := hc 0 r rfl; rw [Nat.add_zero] at this; exact this)
      have HCQ : Hid (∀ X, Below M w X → ∀ (j : Nat) (q : Rw), R[j - 1]? = some q → 1 ≤ j → X.cell? ⟨b, o + j, none⟩ = some (.slice q.A q.n q.c)) := fun X hX j q hq hj => (hX.cell (p := ⟨b, o + j, none⟩) (by show b < M; omega)).trans (hc j q (by
        obtain ⟨i, rfl⟩ : ∃ i, j = i + 1 := ⟨j - 1, by omega⟩
        rw [List.getElem?_cons_succ]
        exact hq))
      have HR0 := Lib.hid (h.rows r (List.mem_cons_self ..))
      have HRn : Hid (r.n ≤ 1000) := hs r (List.mem_cons_self ..)
      have HRL : Hid (R.length + 1 = n) := hln
      have HRQ : Hid (∀ (j : Nat) (q : Rw), R[j]? = some q → TxAt w q.A q.n q.c q.L ∧ q.n ≤ 1000) := fun j q hq => ⟨h.rows q (List.mem_cons_of_mem _ (List.mem_of_getElem? hq)), hs q (List.mem_cons_of_mem _ (List.mem_of_getElem? hq))⟩
      have HFF : Hid (ffX (r :: R) 0 = r.L.filter (fun x => (!leB R x n))) := by
        unfold Hid
        simp only [ffX]
        rw [if_pos hr]
        exact List.filter_congr (fun x _ => leB_all hln x)
      obtain ⟨RA, hRA⟩ : ∃ RA, r.A = RA := ⟨_, rfl⟩
      obtain ⟨Rn, hRn⟩ : ∃ Rn, r.n = Rn := ⟨_, rfl⟩
      obtain ⟨Rc, hRc⟩ : ∃ Rc, r.c = Rc := ⟨_, rfl⟩
      obtain ⟨RL, hRL⟩ : ∃ RL, r.L = RL := ⟨_, rfl⟩
      rw [hRA, hRn, hRc] at HCR
      rw [hRA, hRn, hRc, hRL] at HR0
      rw [hRn] at HRn
      rw [hRL] at HFF
      rw [HFF.out]
      obtain ⟨p, hp⟩ : ∃ p : Tx → Bool, (fun x => (!leB R x n)) = p := ⟨_, rfl⟩
      have HP : Hid (∀ x, (!leB R x n) = p x) := fun x => by rw [← hp]
      rw [hp]
      have HO := Lib.hid (fiT_all p HR0.out.len)
      have HOL := Lib.hid (fun i => fiT_len p RL i)
      obtain ⟨O, hO⟩ : ∃ O, RL.filter p = O := ⟨_, rfl⟩
      rw [hO] at HO ⊢
      have HOF : Hid (∀ i, ∀ x ∈ fiT p RL i, x.length ≤ 140737488355328) := fun i x hx => by
        unfold fiT at hx
        exact HR0.out.fits x (List.mem_of_mem_take (List.mem_filter.1 hx).1)
      have hRb : Rn ≤ 1000 := HRn.out
      have hle := h.le
      have hmx := h.max
      rw [hM] at HC ⊢
      clear h hs hr hM hc hRA hRn hRc hRL hp hO hln
      go_enter Try.func29, Try.ntmps29
      go_wp2_with fail
      refine HC.out.mono ?_
      rintro e w1 ⟨rfl, hb1⟩
      have HB1 := Lib.hid hb1
      clear hb1
      go_wp2_with fail
      go_loopw [4, 5] (fun ov kv wr => ∃ (k c : Nat) (A' : Option Addr) (c' : Nat), ov = .slice A' c c' ∧ kv = .int .i64 k ∧ k ≤ Rn ∧ wr.ownsRow M 9 1 (.slice A' c c') c ((fiT p RL k).map encStr) ∧ c ≤ k ∧ Below M w wr) (fun _ kv _ => Rn - (intOf kv).toNat)
      case atStart => exact ⟨0, 0, none, 0, rfl, rfl, Nat.zero_le _, ⟨rfl, Or.inl ⟨rfl, rfl⟩⟩, Nat.le_refl _, HB1.out⟩
      case round =>
        obtain ⟨k, c, A', c', rfl, rfl, hk, ht, hck, hbw⟩ := hrel
        have HT := Lib.hid ht
        have HBW := Lib.hid hbw
        have cR := HCR.out wr hbw
        by_cases hlt : k < Rn
        · obtain ⟨x, hx⟩ := HR0.out.get hlt
          obtain ⟨b0, o0, rfl, hbl0, hc0⟩ := HR0.out.at_ (by omega)
          have hlt' : (k : Int) < (Rn : Int) := by omega
          have HFX := Lib.hid (HR0.out.fit hx)
          have HCT0 : Hid (∀ X, Below M w X → X.cell? ⟨b0, o0 + k, none⟩ = some (.string ⟨x.toArray⟩)) := fun X hX => (hX.cell (p := ⟨b0, o0 + k, none⟩) (by have := HM.out; show b0 < M; omega)).trans (hc0 k x hx)
          have HX := Lib.hid hx
          have HB0 := Lib.hid (leB_one R x)
          have HP0 := Lib.hid (HP.out x)
          obtain ⟨BF, hBF⟩ : ∃ BF : Nat → Bool, leB R x = BF := ⟨_, rfl⟩
          have HBS : Hid (∀ (j : Nat) (q : Rw), 1 ≤ j → R[j - 1]? = some q → BF (j + 1) = (BF j || decide (x ∈ q.L))) := fun j q hj hq => by rw [← hBF]; exact leB_succ hj hq
          rw [show leB R x 1 = BF 1 from by rw [hBF]] at HB0
          rw [show (!leB R x n) = !BF n from by rw [← hBF]] at HP0
          obtain ⟨T, hT⟩ : ∃ T : ByteArray, (⟨x.toArray⟩ : ByteArray) = T := ⟨_, rfl⟩
          have HTT := Lib.hid hT
          have HIN : Hid (∀ (q : Rw) (X : World), Below M w X → TxAt w q.A q.n q.c q.L → q.n ≤ 1000 → Calls Try.prog 34 #[.slice q.A q.n q.c, .string T] X fun e w' => e = .returned (.bool (decide (x ∈ q.L))) ∧ Below X.heap.size X w') := fun q X hX hq hq2 => by
            rw [← hT]
            refine (rin_any X (hq.below (by rw [HM.out]; exact hX)) (by omega) x).mono ?_
            rintro e w' ⟨q1, rfl⟩
            exact ⟨q1, Below.refl _ _⟩
          rw [hT] at HCT0
          clear hc0 hx hT hBF ht hbw
          go_wp2_with fail
          go_loopw [6, 7] (fun bv jv wx => ∃ j : Nat, bv = .bool (BF j) ∧ jv = .int .i64 j ∧ 1 ≤ j ∧ j ≤ n ∧ Below wr.heap.size wr wx) (fun _ jv _ => n - (intOf jv).toNat)
          case atStart => exact ⟨1, by rw [HB0.out], rfl, Nat.le_refl _, by omega, Below.refl _ _⟩
          case round =>
            obtain ⟨j, rfl, rfl, hj1, hj, hbx⟩ := hrel
            have HBX := Lib.hid hbx
            have HBM : Hid (Below M w wr) := HBW.out.trans (hbx.mono (by have := HBW.out.size; have := HM.out; omega))
            have a0 := HCR.out wr HBM.out
            have a1 := HCT0.out wr HBM.out
            by_cases hlj : j < n
            · obtain ⟨q, hq⟩ : ∃ q, R[j - 1]? = some q := ⟨_, List.getElem?_eq_getElem (by have := HRL.out; omega)⟩
              obtain ⟨hq1, hq2⟩ := HRQ.out _ q hq
              have HQ := Lib.hid (HBS.out j q hj1 hq)
              have hlj' : (j : Int) < (n : Int) := by omega
              have hj0 : (0 : Int) ≤ (j : Int) := by omega
              have HI : Hid (∀ X, Below wr.heap.size wr X → Calls Try.prog 34 #[.slice q.A q.n q.c, .string T] X fun e w' => e = .returned (.bool (decide (x ∈ q.L))) ∧ Below X.heap.size X w') := fun X hX => HIN.out q X (HBM.out.trans (hX.mono (by have := HBM.out.size; have := HM.out; omega))) hq1 hq2
              have HS : Hid (∀ X, Below wr.heap.size wr X → Below wr.heap.size wr X ∧ X.cell? ⟨b, o + j, none⟩ = some (.slice q.A q.n q.c) ∧ X.cell? ⟨b, o, none⟩ = some (.slice (some ⟨b0, o0, none⟩) Rn Rc) ∧ X.cell? ⟨b0, o0 + k, none⟩ = some (.string T)) := fun X hX => by
                have hX2 : Below M w X := HBM.out.trans (hX.mono (by have := HBM.out.size; have := HM.out; omega))
                exact ⟨hX, HCQ.out X hX2 j q hq hj1, HCR.out X hX2, HCT0.out X hX2⟩
              obtain ⟨QA, hQA⟩ : ∃ QA, q.A = QA := ⟨_, rfl⟩
              obtain ⟨Qn, hQn⟩ : ∃ Qn, q.n = Qn := ⟨_, rfl⟩
              obtain ⟨Qc, hQc⟩ : ∃ Qc, q.c = Qc := ⟨_, rfl⟩
              obtain ⟨D, hD⟩ : ∃ D, decide (x ∈ q.L) = D := ⟨_, rfl⟩
              rw [hD] at HQ HI
              rw [hQA, hQn, hQc] at HI HS
              have H0 : Hid (Below wr.heap.size wr wr) := Below.refl _ _
              clear hq hq1 hq2 hbx hQA hQn hQc hD
              cases hBj : BF j with
              | false =>
                rw [hBj] at HQ
                have HQ2 : Hid (D = BF (j + 1)) := by unfold Hid; rw [HQ.out]; cases D <;> rfl
                clear hBj
                go_wp2_with fail
                go_region_held3 (fun X => Below wr.heap.size wr X ∧ X.cell? ⟨b, o + j, none⟩ = some (.slice QA Qn Qc) ∧ X.cell? ⟨b, o, none⟩ = some (.slice (some ⟨b0, o0, none⟩) Rn Rc) ∧ X.cell? ⟨b0, o0 + k, none⟩ = some (.string T))
                  (first | exact HS.out _ HC1.out | exact HS.out _ H0.out.drew | exact HS.out _ H0.out)
                  (first | (go_at_call 34; refine Calls.mono (HI.out _ (by first | exact H0.out.drew | exact H0.out)) ?_; rintro en x1 ⟨rfl, hq⟩; have HC1 : Hid (Below wr.heap.size wr x1) := (by first | exact bup H0.out hq | exact (Below.refl _ _).drew.trans hq); clear hq))
                all_goals
                  try simp only [Act.put]
                  go_simp
                  go_wp2
                  go_roundw
                  case rel => exact ⟨j + 1, by rw [← HQ2.out], by go_num, by omega, hlj, bup HBX.out HC1.out⟩
                  case measure => simp only [intOf]; omega
              | true =>
                rw [hBj] at HQ
                have HQ2 : Hid (true = BF (j + 1)) := by unfold Hid; rw [HQ.out]; cases D <;> rfl
                clear hBj
                go_wp2_with fail
                go_region
                all_goals
                  try simp only [Act.put]
                  go_simp
                  go_wp2
                  go_roundw
                  case rel => exact ⟨j + 1, by rw [← HQ2.out], by go_num, by omega, hlj, by first | exact HBX.out.drew | exact HBX.out⟩
                  case measure => simp only [intOf]; omega
            · have hgj : ¬ (j : Int) < (n : Int) := by omega
              obtain rfl : j = n := by omega
              have hmw : M ≤ wr.heap.size := by have q := HBM.out.size; have q2 := HM.out; omega
              have HTx := Lib.hid (own_below HT.out hbx)
              clear hbx
              cases hBj : BF j with
              | false =>
                have hpx : p x = true := by rw [← HP0.out, hBj]; try rfl
                have HE := Lib.hid (fiT_yes HX.out hpx)
                have HW := Lib.hid (World.ownsRow.alloc (w := wr) HTx.out (.cells #[.string T] 9))
                have HONE := Lib.hid (TxAt.one wr x wr.heap.size rfl HFX.out)
                rw [HTT.out] at HONE
                have hzw : M ≤ (wr.alloc (.cells #[.string T] 9)).heap.size := by rw [World.size_alloc]; omega
                have HBA : Hid (Below M w (wr.alloc (.cells #[.string T] 9))) := HBM.out.alloc hmw _
                clear hpx hBj
                go_wp2_with (at_builtin; refine wpList_append_tx rfl _ _ rfl M (.slice A' c c') c (fiT p RL k) rfl HW.out (some ⟨wr.heap.size, 0, none⟩) 1 1 [x] rfl HONE.out (by omega) hzw ?_)
                intro v5 w5 hown hgr
                unfold TxO at hown
                obtain ⟨A5, c5, rfl⟩ := own_slice hown
                have HO5 : Hid (w5.ownsRow M 9 1 (.slice A5 (c + 1) c5) (c + 1) ((fiT p RL (k + 1)).map encStr)) := by unfold Hid; rw [HE.out]; exact hown
                have HB5 : Hid (Below M w w5) := HBA.out.grown hgr hzw (fun k e => (HW.out.lt k e).1)
                clear hown hgr
                go_wp2
                go_roundw
                case rel => exact ⟨k + 1, c + 1, A5, c5, rfl, by go_num, hlt, HO5.out, by omega, HB5.out⟩
                case measure => simp only [intOf]; omega
              | true =>
                have hpx : p x = false := by rw [← HP0.out, hBj]; try rfl
                have HE := Lib.hid (fiT_no HX.out hpx)
                clear hpx hBj
                go_wp2
                go_roundw
                case rel => exact ⟨k + 1, c, A', c', rfl, by go_num, hlt, by rw [HE.out]; exact HTx.out, by omega, HBM.out⟩
                case measure => simp only [intOf]; omega
        · have hge : ¬ (k : Int) < (Rn : Int) := by omega
          obtain rfl : k = Rn := by omega
          obtain ⟨A2, c2, e2, h2, _⟩ := tx_of_own HT.out (HOF.out k)
          injection e2 with e2 _ e3
          subst e2 e3
          rw [HO.out] at h2
          have H2 := Lib.hid h2
          clear ht hbw h2
          go_wp2
          go_ret2
          exact ⟨A', c, c', rfl, H2.out, HBW.out⟩
  · rw [ckA_no hr]
    rw [decide_eq_false hr] at HC
    rw [show ffX S 0 = [] from by
      rcases S with _ | ⟨r, R⟩
      · rfl
      · simp only [ffX]; rw [if_neg hr]]
    rw [hM] at HC ⊢
    clear h hs hr hM
    go_enter Try.func29, Try.ntmps29
    go_wp2_with fail
    refine HC.out.mono ?_
    rintro e w1 ⟨rfl, hb1⟩
    have HB1 := Lib.hid hb1
    clear hb1
    go_wp2
    go_ret2
    exact ⟨none, 0, 0, rfl, TxAt.nil _, HB1.out⟩

end Go.Proofs.Ytkobhlhkkpnmkaa
