/-
  The walks of the document's own line, right, deep and Check at any tree. Conditions: the tree lies in memory, of bulk at most 1048576.
-/
import Derived.Test.YtbldahkgilkclaaDoorRiA
import Derived.Deep.RegionLaw
namespace Go.Proofs.YtbldahkgilkclaaDoor
open Go.RowKit

/-- May a text stand in a line? -/
def lineOk (T : ByteArray) : Bool := decide (T.size ≤ 65536 ∧ ∀ c ∈ T.data.toList, c.toNat ≠ 13 ∧ c.toNat ≠ 10)

set_option maxRecDepth 100000 in
set_option maxHeartbeats 4000000 in
theorem rline_any (T : ByteArray) (w : World) (hs : T.size ≤ 9223372036854775807) :
    Calls Tryd.prog 30 #[.string T] w fun e w' => e = .returned (.bool (lineOk T)) ∧ Below w.heap.size w w' := by
  have HR : Hid (lineOk T = true ↔ (T.size ≤ 65536 ∧ ∀ c ∈ T.data.toList, c.toNat ≠ 13 ∧ c.toNat ≠ 10)) := by unfold Hid lineOk; exact decide_eq_true_iff
  obtain ⟨R, hR⟩ : ∃ R, lineOk T = R := ⟨_, rfl⟩
  rw [hR] at HR ⊢
  clear hR
  by_cases hbig : 65536 < T.size
  · have : R = false := by
      cases R with
      | false => rfl
      | true => have := (HR.out.1 rfl).1; omega
    subst this
    go_enter Tryd.func30, Tryd.ntmps30
    go_wp2
    go_ret
    exact ⟨rfl, Below.refl _ _⟩
  · go_enter Tryd.func30, Tryd.ntmps30
    go_wp2
    go_loopw [3] (fun i wr => ∃ k : Nat, i = .int .i64 k ∧ k ≤ T.size ∧ Below w.heap.size w wr ∧ Hid (∀ (j : Nat) (c : UInt8), j < k → T.data.toList[j]? = some c → c.toNat ≠ 13 ∧ c.toNat ≠ 10)) (fun i _ => T.size - (intOf i).toNat)
    case atStart => exact ⟨0, rfl, by omega, Below.refl _ _, fun j c hj => absurd hj (Nat.not_lt_zero j)⟩
    case round =>
      obtain ⟨k, rfl, hk, hb, HG⟩ := hrel
      have HB := Lib.hid hb
      clear hb
      by_cases hlt : k < T.size
      · obtain ⟨c, hc⟩ : ∃ c : UInt8, (T[k]'hlt) = c := ⟨_, rfl⟩
        have HC : Hid (T.data.toList[k]? = some c) := by
          unfold Hid
          rw [List.getElem?_eq_getElem (by rw [Array.length_toList]; exact hlt), ← hc]
          rfl
        obtain ⟨x, hx⟩ : ∃ x : Nat, c.toNat = x := ⟨_, rfl⟩
        have HX := Lib.hid hx
        by_cases h13 : x = 13
        · subst h13
          have : R = false := by
            cases R with
            | false => rfl
            | true => exact absurd HX.out ((HR.out.1 rfl).2 c (List.mem_of_getElem? HC.out)).1
          subst this
          go_wp2
          go_ret
          exact ⟨rfl, HB.out⟩
        · by_cases h10 : x = 10
          · subst h10
            have : R = false := by
              cases R with
              | false => rfl
              | true => exact absurd HX.out ((HR.out.1 rfl).2 c (List.mem_of_getElem? HC.out)).2
            subst this
            go_wp2
            go_ret
            exact ⟨rfl, HB.out⟩
          · have g1 : ((x : Int) == 13) = false := by rw [beq_eq_false_iff_ne]; omega
            have g2 : ((x : Int) == 10) = false := by rw [beq_eq_false_iff_ne]; omega
            have H13 := Lib.hid h13
            have H10 := Lib.hid h10
            clear h13 h10
            go_wp2
            go_roundw
            case rel => exact ⟨k + 1, by go_num, by omega, HB.out, fun j d hj hd => by
              rcases Nat.lt_or_ge j k with h | h
              · exact HG.out j d h hd
              · obtain rfl : j = k := by omega
                have e := HC.out.symm.trans hd
                injection e with e
                rw [← e, HX.out]
                exact ⟨H13.out, H10.out⟩⟩
            case measure => simp only [intOf]; omega
      · obtain rfl : k = T.size := by omega
        have : R = true := HR.out.2 ⟨by omega, fun c hc => by
          obtain ⟨j, hj⟩ := List.getElem?_of_mem hc
          exact HG.out j c (by have := (List.getElem?_eq_some_iff.1 hj).1; rw [Array.length_toList] at this; exact this) hj⟩
        subst this
        go_wp2
        go_ret
        exact ⟨rfl, HB.out⟩

theorem lineOk_leaf (k : Int) (hk : k = 1 ∨ k = 2) (T : ByteArray) (n : Int) (m : Nat) : leafOk k T n m = (lineOk T && (decide (n = 0) && decide (m = 0))) := by
  unfold leafOk lineOk
  rw [if_pos hk, Bool.eq_iff_iff]
  simp only [Bool.and_eq_true, decide_eq_true_eq]
  constructor
  · rintro ⟨h1, h2, h3, h4⟩
    exact ⟨⟨h3, (noAny_crlf T).1 h4⟩, h1, h2⟩
  · rintro ⟨⟨h3, h4⟩, h1, h2⟩
    exact ⟨h1, h2, h3, (noAny_crlf T).2 h4⟩

def RightTells (v : Value) (r : Bool) (w : World) : Prop := Calls Tryd.prog 20 #[v] w fun e w' => e = .returned (.bool r) ∧ Below w.heap.size w w'

set_option maxRecDepth 100000 in
set_option maxHeartbeats 4000000 in
theorem rright_line (k : Int) (hk : k = 1 ∨ k = 2) (T : ByteArray) (n : Int) (A : Option Addr) (m c : Nat) (w : World) (hs : T.size ≤ 9223372036854775807) :
    Calls Tryd.prog 20 #[.agg #[.int .i64 k, .string T, .int .i64 n, .slice A m c]] w fun e w' => e = .returned (.bool (lineOk T && (decide (n = 0) && decide (m = 0)))) ∧ Below w.heap.size w w' := by
  have HL := Lib.hid (fun w => rline_any T w hs)
  obtain ⟨L, hL⟩ : ∃ L, lineOk T = L := ⟨_, rfl⟩
  rw [hL] at HL ⊢
  have hm' : ((m : Int) == 0) = decide (m = 0) := by by_cases q : m = 0 <;> simp [q]
  have hn' : (n == 0) = decide (n = 0) := by by_cases q : n = 0 <;> simp [q]
  obtain ⟨wb, hwb⟩ : ∃ wb, w.alloc (.cells #[.int .i64 k, .string T, .int .i64 n, .slice A m c] 25) = wb := ⟨_, rfl⟩
  have hnew : wb.heap[w.heap.size]? = some (.cells #[.int .i64 k, .string T, .int .i64 n, .slice A m c] 25) := by rw [← hwb]; exact World.alloc_heap_new w _
  have hbw : Below w.heap.size w wb := by rw [← hwb]; exact (Below.refl _ _).alloc (Nat.le_refl _) _
  have hlt : w.heap.size < wb.heap.size := by rw [← hwb]; simp
  have HW := Lib.hid hwb
  have HNEW := Lib.hid hnew
  have HBW := Lib.hid hbw
  clear hwb hnew hbw hL
  cases L
  all_goals
    by_cases hm : m = 0
    all_goals
      by_cases hn : n = 0
      all_goals
        simp only [hm, hn, decide_true, decide_false] at hm' hn'
        have HM0 := Lib.hid hm
        have HN0 := Lib.hid hn
        clear hm hn
        rcases hk with rfl | rfl
        all_goals
          go_enter Tryd.func20, Tryd.ntmps20
          go_wp2_with fail
          rw [HW.out]
          refine (HL.out wb).mono ?_
          rintro e w2 ⟨rfl, hb2⟩
          have q2 : w2.cell? ⟨w.heap.size, 2, none⟩ = some (.int .i64 n) := (hb2.cell (p := ⟨w.heap.size, 2, none⟩) hlt).trans (cell_in HNEW.out)
          have q3 : w2.cell? ⟨w.heap.size, 3, none⟩ = some (.slice A m c) := (hb2.cell (p := ⟨w.heap.size, 3, none⟩) hlt).trans (cell_in HNEW.out)
          have HB2 := Lib.hid (HBW.out.trans (hb2.mono (by omega)))
          clear hb2
          go_wp2
          go_ret
          exact ⟨by have := HM0.out; have := HN0.out; simp [*], HB2.out⟩

set_option maxRecDepth 100000 in
set_option maxHeartbeats 4000000 in
theorem rright_int (T : ByteArray) (n : Int) (A : Option Addr) (m c : Nat) (w : World) :
    Calls Tryd.prog 20 #[.agg #[.int .i64 3, .string T, .int .i64 n, .slice A m c]] w fun e w' => e = .returned (.bool (T.toList.isEmpty && decide (m = 0))) ∧ Below w.heap.size w w' := by
  cases hT : T.toList.isEmpty
  all_goals
    by_cases hm : m = 0
    all_goals
      have hm' : ((m : Int) == 0) = decide (m = 0) := by by_cases q : m = 0 <;> simp [q]
      simp only [hm, decide_true, decide_false] at hm' ⊢
      go_enter Tryd.func20, Tryd.ntmps20
      go_wp2
      go_ret
      exact ⟨by simp, (Below.refl _ _).alloc (Nat.le_refl _) _⟩

set_option maxRecDepth 100000 in
set_option maxHeartbeats 4000000 in
theorem rright_text (T : ByteArray) (n : Int) (A : Option Addr) (m c : Nat) (w : World) (hs : T.size ≤ 9223372036854775807) :
    Calls Tryd.prog 20 #[.agg #[.int .i64 4, .string T, .int .i64 n, .slice A m c]] w fun e w' => e = .returned (.bool (decide (n = 0 ∧ m = 0 ∧ T.size ≤ 65536))) ∧ Below w.heap.size w w' := by
  have hm' : ((m : Int) == 0) = decide (m = 0) := by by_cases q : m = 0 <;> simp [q]
  have hn' : (n == 0) = decide (n = 0) := by by_cases q : n = 0 <;> simp [q]
  by_cases hl : T.size ≤ 65536
  all_goals
    by_cases hm : m = 0
    all_goals
      by_cases hn : n = 0
      all_goals
        simp only [hm, hn, decide_true, decide_false] at hm' hn'
        have HM0 := Lib.hid hm
        have HN0 := Lib.hid hn
        clear hm hn
        go_enter Tryd.func20, Tryd.ntmps20
        go_wp2
        go_ret
        exact ⟨by have := HM0.out; have := HN0.out; simp [*] <;> omega, (Below.refl _ _).alloc (Nat.le_refl _) _⟩

set_option maxRecDepth 100000 in
set_option maxHeartbeats 4000000 in
theorem rright_nils (k : Int) (hk : k = 5 ∨ k = 7) (T : ByteArray) (n : Int) (A : Option Addr) (m c : Nat) (w : World) :
    Calls Tryd.prog 20 #[.agg #[.int .i64 k, .string T, .int .i64 n, .slice A m c]] w fun e w' => e = .returned (.bool (T.toList.isEmpty && decide (n = 0 ∧ m = 0))) ∧ Below w.heap.size w w' := by
  have hm' : ((m : Int) == 0) = decide (m = 0) := by by_cases q : m = 0 <;> simp [q]
  have hn' : (n == 0) = decide (n = 0) := by by_cases q : n = 0 <;> simp [q]
  cases hT : T.toList.isEmpty
  all_goals
    by_cases hm : m = 0
    all_goals
      by_cases hn : n = 0
      all_goals
        simp only [hm, hn, decide_true, decide_false] at hm' hn' ⊢
        rcases hk with rfl | rfl
        all_goals
          go_enter Tryd.func20, Tryd.ntmps20
          go_wp2
          go_ret
          exact ⟨by simp, (Below.refl _ _).alloc (Nat.le_refl _) _⟩

set_option maxRecDepth 100000 in
set_option maxHeartbeats 4000000 in
theorem rright_none (k : Int) (hk : ¬ (1 ≤ k ∧ k ≤ 7)) (T : ByteArray) (n : Int) (A : Option Addr) (m c : Nat) (w : World) :
    Calls Tryd.prog 20 #[.agg #[.int .i64 k, .string T, .int .i64 n, .slice A m c]] w fun e w' => e = .returned (.bool false) ∧ Below w.heap.size w w' := by
  have k1 : (k == 1) = false := by rw [beq_eq_false_iff_ne]; omega
  have k2 : (k == 2) = false := by rw [beq_eq_false_iff_ne]; omega
  have k3 : (k == 3) = false := by rw [beq_eq_false_iff_ne]; omega
  have k4 : (k == 4) = false := by rw [beq_eq_false_iff_ne]; omega
  have k5 : (k == 5) = false := by rw [beq_eq_false_iff_ne]; omega
  have k6 : (k == 6) = false := by rw [beq_eq_false_iff_ne]; omega
  have k7 : (k == 7) = false := by rw [beq_eq_false_iff_ne]; omega
  go_enter Tryd.func20, Tryd.ntmps20
  go_wp2
  go_ret
  exact ⟨rfl, (Below.refl _ _).alloc (Nat.le_refl _) _⟩

theorem rright_leaf (k : Int) (hk : k ≠ 6) (T : ByteArray) (n : Int) (A : Option Addr) (m c : Nat) (w : World) (hs : T.size ≤ 9223372036854775807) :
    Calls Tryd.prog 20 #[.agg #[.int .i64 k, .string T, .int .i64 n, .slice A m c]] w fun e w' => e = .returned (.bool (leafOk k T n m)) ∧ Below w.heap.size w w' := by
  by_cases h1 : k = 1 ∨ k = 2
  · rw [lineOk_leaf k h1]; exact rright_line k h1 T n A m c w hs
  · unfold leafOk
    rw [if_neg h1]
    by_cases h3 : k = 3
    · subst h3; rw [if_pos rfl]; exact rright_int T n A m c w
    · rw [if_neg h3]
      by_cases h4 : k = 4
      · subst h4; rw [if_pos rfl]; exact rright_text T n A m c w hs
      · rw [if_neg h4]
        by_cases h5 : k = 5 ∨ k = 7
        · rw [if_pos h5]; exact rright_nils k h5 T n A m c w
        · rw [if_neg h5]; exact rright_none k (by omega) T n A m c w

set_option maxRecDepth 100000 in
set_option maxHeartbeats 8000000 in
theorem rright_array (T : ByteArray) (num : Int) (LA : Option Addr) (b o n cap : Nat) (p : Parts) (ok : Nat → Bool) (w : World) (hLA : 0 < n → LA = some ⟨b, o, none⟩) (hc : p.At w b o n) (hbig : n ≤ 140737488351232)
    (hM : ∀ i, i < n → ∀ w', Below w.heap.size w w' → RightTells (p.val i) (ok i) w') :
    RightTells (.agg #[.int .i64 6, .string T, .int .i64 num, .slice LA n cap]) (T.toList.isEmpty && (decide (num = 0) && (decide (n ≤ 131072) && allOk n ok))) w := by
  have HC := Lib.hid hc
  have HMM := Lib.hid hM
  have HLA := Lib.hid hLA
  have HAL := Lib.hid (allOk_iff n ok)
  obtain ⟨R, hR⟩ : ∃ R, allOk n ok = R := ⟨_, rfl⟩
  rw [hR] at HAL ⊢
  clear hc hM hLA hR
  unfold RightTells
  by_cases hgo : T.toList.isEmpty = true ∧ num = 0 ∧ n ≤ 131072
  · obtain ⟨hT, rfl, hl⟩ := hgo
    have HR : Hid ((T.toList.isEmpty && (decide ((0 : Int) = 0) && (decide (n ≤ 131072) && R))) = R) := by unfold Hid; simp [hT, hl]
    rw [HR.out]
    clear HR
    go_enter Tryd.func20, Tryd.ntmps20
    go_wp2
    obtain ⟨wa, hwa⟩ : ∃ wa, w.alloc (.cells #[.int .i64 6, .string T, .int .i64 0, .slice LA n cap] 25) = wa := ⟨_, rfl⟩
    have hba : Below w.heap.size w wa := by rw [← hwa]; exact (Below.refl _ _).alloc (Nat.le_refl _) _
    have hsa : wa.heap.size = w.heap.size + 1 := by rw [← hwa]; simp
    have ya : wa.cell? ⟨w.heap.size, 3, none⟩ = some (.slice LA n cap) := by rw [← hwa]; exact (cell_in (World.alloc_heap_new w _)).trans rfl
    try rw [hwa]
    have HBA := Lib.hid hba
    have HYA := Lib.hid ya
    clear hwa hba ya
    go_loopw [3] (fun iv wr => ∃ j : Nat, iv = .int .i64 j ∧ j ≤ n ∧ Below wa.heap.size wa wr ∧ Hid (∀ i, i < j → ok i = true)) (fun iv _ => n - (intOf iv).toNat)
    case atStart => exact ⟨0, rfl, by omega, Below.refl _ _, fun i hi => absurd hi (Nat.not_lt_zero i)⟩
    case round =>
      obtain ⟨j, rfl, hj, hbr, HG⟩ := hrel
      have za := (hbr.cell (p := ⟨w.heap.size, 3, none⟩) (by show w.heap.size < wa.heap.size; omega)).trans HYA.out
      have HBR := Lib.hid hbr
      have hzr := hbr.size
      have hwr : Below w.heap.size w wr := HBA.out.trans (hbr.mono (by omega))
      have HWR := Lib.hid hwr
      clear hbr
      by_cases hlt : j < n
      · obtain rfl : LA = some ⟨b, o, none⟩ := HLA.out (by omega)
        have hbw : b < w.heap.size := World.block_lt_of_cell? w _ (HC.out j hlt).1
        obtain ⟨c0, c1, c2, c3⟩ := (HC.out.below hwr hbw) j hlt
        have HM := Lib.hid (HMM.out j hlt wr hwr)
        unfold Parts.val RightTells at HM
        generalize p.k j = k0 at c0 HM
        generalize p.t j = t0 at c1 HM
        generalize p.n j = n0 at c2 HM
        generalize p.a j = a0 at c3 HM
        generalize p.m j = m0 at c3 HM
        generalize p.c j = cc0 at c3 HM
        clear hwr
        cases hok : ok j with
        | true =>
          rw [hok] at HM
          go_wp2_with fail
          refine HM.out.mono ?_
          rintro e w2 ⟨rfl, hb2⟩
          have HB2 := Lib.hid (HBR.out.trans (hb2.mono hzr))
          clear hb2
          go_wp2
          go_roundw
          case rel => exact ⟨j + 1, by go_num, by omega, HB2.out, fun i hi => by
            rcases Nat.lt_or_ge i j with h | h
            · exact HG.out i h
            · obtain rfl : i = j := by omega
              exact hok⟩
          case measure => simp only [intOf]; omega
        | false =>
          have : R = false := by
            cases R with
            | false => rfl
            | true => have := HAL.out.1 rfl j hlt; rw [hok] at this; cases this
          subst this
          rw [hok] at HM
          go_wp2_with fail
          refine HM.out.mono ?_
          rintro e w2 ⟨rfl, hb2⟩
          have HB2 := Lib.hid (HWR.out.trans (hb2.mono HWR.out.size))
          clear hb2
          go_wp2
          go_ret
          exact ⟨rfl, HB2.out⟩
      · obtain rfl : j = n := by omega
        have : R = true := HAL.out.2 (fun i hi => HG.out i hi)
        subst this
        clear hwr
        go_wp2
        go_ret
        exact ⟨rfl, HWR.out⟩
  · have HR : Hid ((T.toList.isEmpty && (decide (num = 0) && (decide (n ≤ 131072) && R))) = false) := by
      unfold Hid
      rw [Bool.eq_false_iff]
      intro q
      simp only [Bool.and_eq_true, decide_eq_true_eq] at q
      exact hgo ⟨q.1, q.2.1, q.2.2.1⟩
    rw [HR.out]
    clear HR
    have hnum : (num != 0) = !decide (num = 0) := by by_cases q : num = 0 <;> simp [q]
    cases hT : T.toList.isEmpty
    · go_enter Tryd.func20, Tryd.ntmps20
      go_wp2
      go_ret
      exact ⟨rfl, (Below.refl _ _).alloc (Nat.le_refl _) _⟩
    · by_cases hn0 : num = 0
      · have hl : 131072 < n := by
          refine Nat.lt_of_not_le fun h => hgo ⟨hT, hn0, h⟩
        simp only [hn0, decide_true, Bool.not_true] at hnum
        subst hn0
        go_enter Tryd.func20, Tryd.ntmps20
        go_wp2
        go_ret
        exact ⟨rfl, (Below.refl _ _).alloc (Nat.le_refl _) _⟩
      · simp only [hn0, decide_false, Bool.not_false] at hnum
        go_enter Tryd.func20, Tryd.ntmps20
        go_wp2
        go_ret
        exact ⟨rfl, (Below.refl _ _).alloc (Nat.le_refl _) _⟩

theorem rright_I : ∀ (N : Nat) (x : RI), bulkI x ≤ N → N ≤ 1048576 → ∀ (w : World) (cs : List Value), RepI w x cs → ∀ w', Below w.heap.size w w' → RightTells (.agg cs.toArray) (mayI x) w' := by
  intro N
  induction N with
  | zero => intro x hx; have := bulkI_pos x; omega
  | succ N ih =>
    intro x hx hN w cs h w' hb
    obtain ⟨k, t, n, l⟩ := x
    obtain ⟨T, A, g, o, c, p, rfl, hT, hl, hm, _, hA, hAt, hc⟩ := h.row
    rw [bulkI] at hx
    have hs : T.size ≤ 9223372036854775807 := by rw [Lib.size_eq, hT]; omega
    by_cases hk : k = 6
    · subst hk
      have hx : ∀ j, j < l.length → ∃ x, l[j]? = some x := fun j hj => ⟨_, List.getElem?_eq_getElem hj⟩
      have h1 := rright_array T n A g o l.length c p (fun j => match l[j]? with | some x => mayI x | none => true) w' (fun q => (hA q).1) (fun i hi => (hAt.below hb (hA (by omega)).2) i hi) (by have := bulkIs_len l; omega) (fun j hj w2 hb2 => by
        obtain ⟨x, hx⟩ := hx j hj
        have h2 := ih x (by have := bulkIs_mem (List.mem_of_getElem? hx); omega) (by omega) w _ (hc j x hx) w2 (hb.trans (hb2.mono hb.size))
        unfold Parts.val
        simp only [hx]
        exact h2)
      rw [Lib.toList_data, hT, mayIs_get l _ (fun j x hx => by simp only [hx])] at h1
      exact h1
    · have h1 := rright_leaf k hk T n A l.length c w' hs
      unfold RightTells
      rw [mayI, if_neg hk, ← textI_eq hT]
      exact h1

end Go.Proofs.YtbldahkgilkclaaDoor
