/-
  The walk of package reply's mayBe where a reply is no array: every kind, whatever its parts. The walks of package reply's mayNotBe, and of slices.IndexFunc and ContainsFunc over a row of any replies, given what mayBe tells of each. The walks of slices.ContainsFunc over a row of any replies, and of package reply's mayBe at any array, given what mayBe tells of each part.
-/
import Derived.Test.YtbldahkgilkclaaDoorRzZ
import Derived.Test.YtbldahkgilkclaaDoorRyA
namespace Go.Proofs.YtbldahkgilkclaaDoor
open Go.RowKit

/-- What mayBe asks of a reply that is no array: its kind, its text, its number, how long its list is. -/
def leafOk (k : Int) (T : ByteArray) (n : Int) (m : Nat) : Bool :=
  if k = 1 ∨ k = 2 then decide (n = 0 ∧ m = 0 ∧ T.size ≤ 65536 ∧ ¬ (0 ≤ Lib.indexAny T.data.toList crlf))
  else if k = 3 then T.toList.isEmpty && decide (m = 0)
  else if k = 4 then decide (n = 0 ∧ m = 0 ∧ T.size ≤ 65536)
  else if k = 5 ∨ k = 7 then T.toList.isEmpty && decide (n = 0 ∧ m = 0)
  else false

set_option maxRecDepth 100000 in
set_option maxHeartbeats 4000000 in
theorem pmayBe_line (k : Int) (hk : k = 1 ∨ k = 2) (T : ByteArray) (n : Int) (A : Option Addr) (m c : Nat) (w : World) (hs : T.size ≤ 9223372036854775807) :
    Calls Tryd.prog 18 #[.agg #[.int .i64 k, .string T, .int .i64 n, .slice A m c]] w fun e w' => e = .returned (.bool (decide (n = 0 ∧ m = 0 ∧ T.size ≤ 65536 ∧ ¬ (0 ≤ Lib.indexAny T.data.toList crlf)))) ∧ Below w.heap.size w w' := by
  by_cases hn : n = 0
  · subst hn
    by_cases hm : m = 0
    · subst hm
      by_cases hl : T.size ≤ 65536
      · have HS := Lib.hid (fun w => scontains_any T w hl)
        obtain ⟨X, hX⟩ : ∃ X, Lib.indexAny T.data.toList crlf = X := ⟨_, rfl⟩
        rw [hX] at HS ⊢
        clear hX
        by_cases hx : 0 ≤ X
        all_goals
          rcases hk with rfl | rfl
          all_goals
            go_enter Tryd.func18, Tryd.ntmps18
            go_wp2_with fail
            go_quiet (fail)
            go_wp2_with (go_at_call 28; refine (HS.out _).mono ?_; rintro e w' ⟨rfl, hb⟩)
            go_ret
            exact ⟨by simp [hx] <;> omega, (below_drewN ((Below.refl _ _).alloc (Nat.le_refl _) _) _).trans (hb.mono (by simp))⟩
      · rcases hk with rfl | rfl
        all_goals
          go_enter Tryd.func18, Tryd.ntmps18
          go_wp2_with fail
          go_quiet (fail)
          go_wp2
          go_ret
          exact ⟨by simp <;> omega, below_drewN ((Below.refl _ _).alloc (Nat.le_refl _) _) _⟩
    · have hm' : ((m : Int) == 0) = false := by rw [beq_eq_false_iff_ne]; omega
      rcases hk with rfl | rfl
      all_goals
        go_enter Tryd.func18, Tryd.ntmps18
        go_wp2_with fail
        go_quiet (fail)
        go_wp2
        go_ret
        exact ⟨by simp <;> omega, below_drewN ((Below.refl _ _).alloc (Nat.le_refl _) _) _⟩
  · have hn' : (n == 0) = false := by rw [beq_eq_false_iff_ne]; exact hn
    rcases hk with rfl | rfl
    all_goals
      go_enter Tryd.func18, Tryd.ntmps18
      go_wp2_with fail
      go_quiet (fail)
      go_wp2
      go_ret
      exact ⟨by simp <;> omega, below_drewN ((Below.refl _ _).alloc (Nat.le_refl _) _) _⟩

set_option maxRecDepth 100000 in
set_option maxHeartbeats 4000000 in
theorem pmayBe_int (T : ByteArray) (n : Int) (A : Option Addr) (m c : Nat) (w : World) :
    Calls Tryd.prog 18 #[.agg #[.int .i64 3, .string T, .int .i64 n, .slice A m c]] w fun e w' => e = .returned (.bool (T.toList.isEmpty && decide (m = 0))) ∧ Below w.heap.size w w' := by
  cases hT : T.toList.isEmpty
  all_goals
    by_cases hm : m = 0
    all_goals
      have hm' : ((m : Int) == 0) = decide (m = 0) := by by_cases q : m = 0 <;> simp [q]
      simp only [hm, decide_true, decide_false] at hm' ⊢
      go_enter Tryd.func18, Tryd.ntmps18
      go_wp2_with fail
      go_quiet (fail)
      go_wp2
      go_ret
      exact ⟨by simp, below_drewN ((Below.refl _ _).alloc (Nat.le_refl _) _) _⟩

set_option maxRecDepth 100000 in
set_option maxHeartbeats 4000000 in
theorem pmayBe_text (T : ByteArray) (n : Int) (A : Option Addr) (m c : Nat) (w : World) (hs : T.size ≤ 9223372036854775807) :
    Calls Tryd.prog 18 #[.agg #[.int .i64 4, .string T, .int .i64 n, .slice A m c]] w fun e w' => e = .returned (.bool (decide (n = 0 ∧ m = 0 ∧ T.size ≤ 65536))) ∧ Below w.heap.size w w' := by
  by_cases hn : n = 0
  · subst hn
    by_cases hm : m = 0
    · subst hm
      by_cases hl : T.size ≤ 65536
      all_goals
        go_enter Tryd.func18, Tryd.ntmps18
        go_wp2_with fail
        go_quiet (fail)
        go_wp2
        go_ret
        exact ⟨by simp <;> omega, below_drewN ((Below.refl _ _).alloc (Nat.le_refl _) _) _⟩
    · have hm' : ((m : Int) == 0) = false := by rw [beq_eq_false_iff_ne]; omega
      go_enter Tryd.func18, Tryd.ntmps18
      go_wp2_with fail
      go_quiet (fail)
      go_wp2
      go_ret
      exact ⟨by simp <;> omega, below_drewN ((Below.refl _ _).alloc (Nat.le_refl _) _) _⟩
  · have hn' : (n == 0) = false := by rw [beq_eq_false_iff_ne]; exact hn
    go_enter Tryd.func18, Tryd.ntmps18
    go_wp2_with fail
    go_quiet (fail)
    go_wp2
    go_ret
    exact ⟨by simp <;> omega, below_drewN ((Below.refl _ _).alloc (Nat.le_refl _) _) _⟩

set_option maxRecDepth 100000 in
set_option maxHeartbeats 4000000 in
theorem pmayBe_nils (k : Int) (hk : k = 5 ∨ k = 7) (T : ByteArray) (n : Int) (A : Option Addr) (m c : Nat) (w : World) :
    Calls Tryd.prog 18 #[.agg #[.int .i64 k, .string T, .int .i64 n, .slice A m c]] w fun e w' => e = .returned (.bool (T.toList.isEmpty && decide (n = 0 ∧ m = 0))) ∧ Below w.heap.size w w' := by
  have hm' : ((m : Int) == 0) = decide (m = 0) := by by_cases q : m = 0 <;> simp [q]
  have hn' : (n == 0) = decide (n = 0) := by by_cases q : n = 0 <;> simp [q]
  cases hT : T.toList.isEmpty
  all_goals
    by_cases hm : m = 0
    all_goals
      by_cases hn : n = 0
      all_goals
        simp only [hm, hn, decide_true, decide_false] at hm' hn' ⊢
        rcases hk with rfl | rfl
        all_goals
          go_enter Tryd.func18, Tryd.ntmps18
          go_wp2_with fail
          go_quiet (fail)
          go_wp2
          go_ret
          exact ⟨by simp, below_drewN ((Below.refl _ _).alloc (Nat.le_refl _) _) _⟩

set_option maxRecDepth 100000 in
set_option maxHeartbeats 4000000 in
theorem pmayBe_none (k : Int) (hk : ¬ (1 ≤ k ∧ k ≤ 7)) (T : ByteArray) (n : Int) (A : Option Addr) (m c : Nat) (w : World) :
    Calls Tryd.prog 18 #[.agg #[.int .i64 k, .string T, .int .i64 n, .slice A m c]] w fun e w' => e = .returned (.bool false) ∧ Below w.heap.size w w' := by
  have k1 : (k == 1) = false := by rw [beq_eq_false_iff_ne]; omega
  have k2 : (k == 2) = false := by rw [beq_eq_false_iff_ne]; omega
  have k3 : (k == 3) = false := by rw [beq_eq_false_iff_ne]; omega
  have k4 : (k == 4) = false := by rw [beq_eq_false_iff_ne]; omega
  have k5 : (k == 5) = false := by rw [beq_eq_false_iff_ne]; omega
  have k6 : (k == 6) = false := by rw [beq_eq_false_iff_ne]; omega
  have k7 : (k == 7) = false := by rw [beq_eq_false_iff_ne]; omega
  go_enter Tryd.func18, Tryd.ntmps18
  go_wp2_with fail
  go_quiet (fail)
  go_wp2
  go_ret
  exact ⟨rfl, below_drewN ((Below.refl _ _).alloc (Nat.le_refl _) _) _⟩

theorem pmayBe_leaf (k : Int) (hk : k ≠ 6) (T : ByteArray) (n : Int) (A : Option Addr) (m c : Nat) (w : World) (hs : T.size ≤ 9223372036854775807) :
    Calls Tryd.prog 18 #[.agg #[.int .i64 k, .string T, .int .i64 n, .slice A m c]] w fun e w' => e = .returned (.bool (leafOk k T n m)) ∧ Below w.heap.size w w' := by
  unfold leafOk
  by_cases h1 : k = 1 ∨ k = 2
  · rw [if_pos h1]; exact pmayBe_line k h1 T n A m c w hs
  · rw [if_neg h1]
    by_cases h3 : k = 3
    · subst h3; rw [if_pos rfl]; exact pmayBe_int T n A m c w
    · rw [if_neg h3]
      by_cases h4 : k = 4
      · subst h4; rw [if_pos rfl]; exact pmayBe_text T n A m c w hs
      · rw [if_neg h4]
        by_cases h5 : k = 5 ∨ k = 7
        · rw [if_pos h5]; exact pmayBe_nils k h5 T n A m c w
        · rw [if_neg h5]; exact pmayBe_none k (by omega) T n A m c w

theorem noAny_crlf (T : ByteArray) : (¬ (0 ≤ Lib.indexAny T.data.toList crlf)) ↔ ∀ c ∈ T.data.toList, c.toNat ≠ 13 ∧ c.toNat ≠ 10 := by
  have hin : ∀ c : UInt8, crlf.contains c = false ↔ (c.toNat ≠ 13 ∧ c.toNat ≠ 10) := by
    intro c
    constructor
    · intro h
      refine ⟨fun q => ?_, fun q => ?_⟩
      · rw [show c = 13 from UInt8.toNat_inj.1 q] at h; exact absurd h (by decide)
      · rw [show c = 10 from UInt8.toNat_inj.1 q] at h; exact absurd h (by decide)
    · intro h
      cases hq : crlf.contains c with
      | false => rfl
      | true =>
        simp [crlf] at hq
        rcases hq with rfl | rfl
        · exact absurd rfl h.1
        · exact absurd rfl h.2
  constructor
  · intro h c hc
    refine (hin c).1 ?_
    cases hq : crlf.contains c with
    | false => rfl
    | true =>
      exfalso
      refine h ?_
      clear h
      generalize T.data.toList = l at hc
      induction l with
      | nil => cases hc
      | cons x l ih =>
        rw [Lib.indexAny]
        split
        · exact Int.le_refl _
        · rename_i hx
          rcases List.mem_cons.1 hc with rfl | hc
          · exact absurd hq (by simpa using hx)
          · have := ih hc
            split
            · rename_i hb
              have := beq_iff_eq.1 hb
              omega
            · omega
  · intro h
    have hno : Lib.NoAny T.data.toList crlf T.data.toList.length := fun j x _ hx => (hin x).2 (h x (List.mem_of_getElem? hx))
    rw [Lib.indexAny_none hno]
    decide

/-- A row of replies: the four parts of each. -/
structure Parts where
  k : Nat → Int
  t : Nat → ByteArray
  n : Nat → Int
  a : Nat → Option Addr
  m : Nat → Nat
  c : Nat → Nat
def Parts.val (p : Parts) (i : Nat) : Value := .agg #[.int .i64 (p.k i), .string (p.t i), .int .i64 (p.n i), .slice (p.a i) (p.m i) (p.c i)]
def Parts.At (p : Parts) (w : World) (b o n : Nat) : Prop := ∀ i, i < n → w.cell? ⟨b, o + i * 4, none⟩ = some (.int .i64 (p.k i)) ∧ w.cell? ⟨b, o + i * 4 + 1, none⟩ = some (.string (p.t i)) ∧ w.cell? ⟨b, o + i * 4 + 2, none⟩ = some (.int .i64 (p.n i)) ∧ w.cell? ⟨b, o + i * 4 + 3, none⟩ = some (.slice (p.a i) (p.m i) (p.c i))
theorem Parts.At.below {p : Parts} {w w' : World} {B b o n : Nat} (h : p.At w b o n) (hb : Below B w w') (hB : b < B) : p.At w' b o n := fun i hi => by
  obtain ⟨h0, h1, h2, h3⟩ := h i hi
  exact ⟨(hb.cell (p := ⟨b, o + i * 4, none⟩) hB).trans h0, (hb.cell (p := ⟨b, o + i * 4 + 1, none⟩) hB).trans h1, (hb.cell (p := ⟨b, o + i * 4 + 2, none⟩) hB).trans h2, (hb.cell (p := ⟨b, o + i * 4 + 3, none⟩) hB).trans h3⟩

def MayBeTells (v : Value) (r : Bool) (w : World) : Prop := Calls Tryd.prog 18 #[v] w fun e w' => e = .returned (.bool r) ∧ Below w.heap.size w w'

set_option maxRecDepth 100000 in
set_option maxHeartbeats 2000000 in
theorem pmayNotBe_of (k : Int) (T : ByteArray) (n : Int) (A : Option Addr) (m c : Nat) (r : Bool) (w : World) (HM : ∀ w', Below w.heap.size w w' → MayBeTells (.agg #[.int .i64 k, .string T, .int .i64 n, .slice A m c]) r w') :
    Calls Tryd.prog 29 #[.agg #[.int .i64 k, .string T, .int .i64 n, .slice A m c]] w fun e w' => e = .returned (.bool (!r)) ∧ Below w.heap.size w w' := by
  have HH := Lib.hid HM
  clear HM
  cases r
  all_goals
    go_enter Tryd.func29, Tryd.ntmps29
    go_wp2_with fail
    refine Calls.mono (HH.out _ ((Below.refl w.heap.size w).alloc (Nat.le_refl _) _)) ?_
    rintro e w2 ⟨rfl, hb2⟩
    have HB := Lib.hid (((Below.refl w.heap.size w).alloc (Nat.le_refl _) _).trans (hb2.mono (by simp)))
    clear hb2
    go_wp2
    go_ret
    exact ⟨rfl, HB.out⟩

set_option maxRecDepth 100000 in
set_option maxHeartbeats 4000000 in
theorem pindexFunc_any (LA : Option Addr) (b o n cap : Nat) (p : Parts) (ok : Nat → Bool) (w : World) (hLA : 0 < n → LA = some ⟨b, o, none⟩) (hc : p.At w b o n) (hbig : n ≤ 140737488351232)
    (hM : ∀ i, i < n → ∀ w', Below w.heap.size w w' → MayBeTells (p.val i) (ok i) w') :
    Calls Tryd.prog 35 #[.slice LA n cap, .func (.func 29) #[] #[]] w fun e w' => ∃ i : Int, e = .returned (.int .i64 i) ∧ (0 ≤ i ↔ ∃ j, j < n ∧ ok j = false) ∧ -1 ≤ i ∧ i ≤ n ∧ Below w.heap.size w w' := by
  have HC := Lib.hid hc
  have HMM := Lib.hid hM
  have HLA := Lib.hid hLA
  clear hc hM hLA
  go_enter Tryd.func35, Tryd.ntmps35
  go_wp2
  go_loopw [5, 8] (fun _ i wr => ∃ k : Nat, i = .int .i64 k ∧ k ≤ n ∧ Below w.heap.size w wr ∧ Hid (∀ j, j < k → ok j = true)) (fun _ i _ => n - (intOf i).toNat)
  case atStart => exact ⟨0, rfl, by omega, Below.refl _ _, fun t ht => by omega⟩
  case round =>
    obtain ⟨k, rfl, hk, hbl, HK⟩ := hrel
    have HBL := Lib.hid hbl
    have hzr := hbl.size
    clear hbl
    by_cases hlt : k < n
    · obtain rfl : LA = some ⟨b, o, none⟩ := HLA.out (by omega)
      have hbw : b < w.heap.size := World.block_lt_of_cell? w _ (HC.out k hlt).1
      obtain ⟨c0, c1, c2, c3⟩ := (HC.out.below HBL.out hbw) k hlt
      have HM := Lib.hid (pmayNotBe_of (p.k k) (p.t k) (p.n k) (p.a k) (p.m k) (p.c k) (ok k) wr (fun w' hb => HMM.out k hlt w' (HBL.out.trans (hb.mono hzr))))
      generalize p.k k = k0 at c0 HM
      generalize p.t k = t0 at c1 HM
      generalize p.n k = n0 at c2 HM
      generalize p.a k = a0 at c3 HM
      generalize p.m k = m0 at c3 HM
      generalize p.c k = cc0 at c3 HM
      cases hok : ok k with
      | true =>
        rw [hok] at HM
        go_wp2_with fail
        refine HM.out.mono ?_
        rintro e w2 ⟨rfl, hb2⟩
        have HB2 := Lib.hid (HBL.out.trans (hb2.mono hzr))
        clear hb2
        go_wp2
        go_roundw
        case rel => exact ⟨k + 1, by go_num, by omega, HB2.out, fun j hj => by
          rcases Nat.lt_or_ge j k with h | h
          · exact HK.out j h
          · obtain rfl : j = k := by omega
            exact hok⟩
        case measure => simp only [intOf]; omega
      | false =>
        rw [hok] at HM
        go_wp2_with fail
        refine HM.out.mono ?_
        rintro e w2 ⟨rfl, hb2⟩
        have HB2 := Lib.hid (HBL.out.trans (hb2.mono hzr))
        clear hb2
        go_wp2
        go_ret
        exact ⟨_, rfl, ⟨fun _ => ⟨k, hlt, hok⟩, fun _ => by omega⟩, by omega, by omega, HB2.out⟩
    · obtain rfl : k = n := by omega
      go_wp2
      go_ret
      exact ⟨_, rfl, ⟨fun h => by omega, fun ⟨j, h1, h2⟩ => by rw [HK.out j h1] at h2; cases h2⟩, by omega, by omega, HBL.out⟩

/-- Whether each may be. -/
def allOk (n : Nat) (ok : Nat → Bool) : Bool := (List.range n).all ok
theorem allOk_iff (n : Nat) (ok : Nat → Bool) : allOk n ok = true ↔ ∀ j, j < n → ok j = true := by unfold allOk; simp

set_option maxRecDepth 100000 in
set_option maxHeartbeats 2000000 in
theorem pcontainsFunc_any (LA : Option Addr) (b o n cap : Nat) (p : Parts) (ok : Nat → Bool) (w : World) (hLA : 0 < n → LA = some ⟨b, o, none⟩) (hc : p.At w b o n) (hbig : n ≤ 140737488351232)
    (hM : ∀ i, i < n → ∀ w', Below w.heap.size w w' → MayBeTells (p.val i) (ok i) w') :
    Calls Tryd.prog 26 #[.slice LA n cap, .func (.func 29) #[] #[]] w fun e w' => e = .returned (.bool (!allOk n ok)) ∧ Below w.heap.size w w' := by
  have HI := Lib.hid (pindexFunc_any LA b o n cap p ok w hLA hc hbig hM)
  clear hLA hc hM
  go_enter Tryd.func26, Tryd.ntmps26
  go_wp2_with fail
  refine HI.out.mono ?_
  rintro e w2 ⟨i, rfl, h1, h2, h3, hb2⟩
  have HB := Lib.hid hb2
  have HE : Hid ((!allOk n ok) = decide (0 ≤ i)) := by
    unfold Hid
    by_cases h : 0 ≤ i
    · obtain ⟨j, hj, hl⟩ := h1.1 h
      rw [decide_eq_true h]
      cases hb : allOk n ok
      · rfl
      · have := (allOk_iff n ok).1 hb j hj
        rw [hl] at this
        cases this
    · rw [decide_eq_false h]
      rw [(allOk_iff n ok).2 (fun j hj => by
        cases hq : ok j with
        | true => rfl
        | false => exact absurd (h1.2 ⟨j, hj, hq⟩) h)]
      rfl
  clear hb2 h1
  go_wp2
  go_ret
  refine ⟨?_, HB.out⟩
  rw [HE.out]
  rfl

set_option maxRecDepth 100000 in
set_option maxHeartbeats 4000000 in
theorem pmayBe_array_any (T : ByteArray) (num : Int) (LA : Option Addr) (b o n cap : Nat) (p : Parts) (ok : Nat → Bool) (w : World) (hLA : 0 < n → LA = some ⟨b, o, none⟩) (hc : p.At w b o n)
    (hM : ∀ i, i < n → ∀ w', Below w.heap.size w w' → MayBeTells (p.val i) (ok i) w') :
    Calls Tryd.prog 18 #[.agg #[.int .i64 6, .string T, .int .i64 num, .slice LA n cap]] w fun e w' => e = .returned (.bool (T.toList.isEmpty && (decide (num = 0) && (decide (n ≤ 131072) && allOk n ok)))) ∧ Below w.heap.size w w' := by
  have hbw : 0 < n → b < w.heap.size := fun h => World.block_lt_of_cell? w _ (hc 0 h).1
  have HCF := Lib.hid (fun (hb : n ≤ 131072) w2 (hb2 : Below w.heap.size w w2) => pcontainsFunc_any LA b o n cap p ok w2 hLA (fun i hi => (hc.below hb2 (hbw (by omega))) i hi) (by omega) (fun i hi w' hb' => hM i hi w' (hb2.trans (hb'.mono hb2.size))))
  clear hLA hc hM hbw
  cases hT : T.toList.isEmpty
  · by_cases hn : num = 0
    all_goals
      have hn' : (num == 0) = decide (num = 0) := by by_cases q : num = 0 <;> simp [q]
      simp only [hn, decide_true, decide_false] at hn'
      go_enter Tryd.func18, Tryd.ntmps18
      go_wp2_with fail
      go_quiet (fail)
      go_wp2
      go_ret
      exact ⟨by simp, below_drewN ((Below.refl _ _).alloc (Nat.le_refl _) _) _⟩
  · by_cases hn : num = 0
    · subst hn
      by_cases hl : n ≤ 131072
      · have HQ := Lib.hid (HCF.out hl)
        go_enter Tryd.func18, Tryd.ntmps18
        go_wp2_with fail
        go_quiet (fail)
        go_wp2_with fail
        refine (HQ.out _ (below_drewN ((Below.refl w.heap.size w).alloc (Nat.le_refl _) _) _)).mono ?_
        rintro e w2 ⟨rfl, hb2⟩
        have HB := Lib.hid ((below_drewN ((Below.refl w.heap.size w).alloc (Nat.le_refl _) (.cells #[.int .i64 6, .string T, .int .i64 0, .slice LA n cap] 25)) nq).trans (hb2.mono (by simp)))
        clear hb2
        cases hA : allOk n ok
        all_goals
          go_wp2
          go_ret
          exact ⟨by simp [hA, hl], HB.out⟩
      · go_enter Tryd.func18, Tryd.ntmps18
        go_wp2_with fail
        go_quiet (fail)
        go_wp2
        go_ret
        exact ⟨by simp, below_drewN ((Below.refl _ _).alloc (Nat.le_refl _) _) _⟩
    · have hn' : (num == 0) = false := by rw [beq_eq_false_iff_ne]; exact hn
      go_enter Tryd.func18, Tryd.ntmps18
      go_wp2_with fail
      go_quiet (fail)
      go_wp2
      go_ret
      exact ⟨by simp [hn], below_drewN ((Below.refl _ _).alloc (Nat.le_refl _) _) _⟩

end Go.Proofs.YtbldahkgilkclaaDoor
