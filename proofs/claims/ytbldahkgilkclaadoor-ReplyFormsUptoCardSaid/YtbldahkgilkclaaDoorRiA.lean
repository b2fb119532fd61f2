/-
  A reply as a row hands it on: of any kind, whatever its parts; its cells in memory read as a tree. The walk of package reply's mayBe at any such tree. The walk of package reply's nestsBeyond at any tree: its closure, slices.IndexFunc and ContainsFunc over it. The walk of package reply's withReply at any tree. Conditions: the table of powers of ten holds what its own text lays; the row of bytes is the call's own, the tree lies below it. The walks of package reply's Check and Encode at any tree. Conditions: the table of powers of ten holds what its own text lays; the tree lies in memory, of bulk at most 1048576.
-/
import Derived.Test.YtbldahkgilkclaaDoorRzYb
import Derived.Test.YtbldahkgilkclaaDoorRdG
import Derived.Test.YtbldahkgilkclaaDoorRyB
import Derived.Test.YtbldahkgilkclaaDoorRyG
namespace Go.Proofs.YtbldahkgilkclaaDoor
open Go.RowKit

/-- A reply of any kind. -/
inductive RI where
  | node (k : Int) (t : List UInt8) (n : Int) (l : List RI)

/-- Four values read as such a reply. -/
inductive RepI (w : World) : RI → List Value → Prop
  | node (k : Int) (t : List UInt8) (n : Int) (l : List RI) (T : ByteArray) (A : Option Addr) (g o c : Nat) (css : Nat → List Value) (hT : T.data.toList = t) (h0 : -9223372036854775808 ≤ n) (h1 : n ≤ 9223372036854775807) (hl : l.length ≤ c) (hm : c ≤ 9223372036854775807)
      (hA : 0 < l.length → A = some ⟨g, o, none⟩ ∧ g < w.heap.size)
      (h4 : ∀ j, j < l.length → (css j).length = 4) (hcell : ∀ j f, j < l.length → f < 4 → w.cell? ⟨g, o + j * 4 + f, none⟩ = (css j)[f]?)
      (hc : ∀ j x, l[j]? = some x → RepI w x (css j)) : RepI w (.node k t n l) [.int .i64 k, .string T, .int .i64 n, .slice A l.length c]

theorem RepI.keep {w w' : World} {x : RI} {cs : List Value} (h : RepI w x cs) (hs : w.heap.size ≤ w'.heap.size) (hk : ∀ g, g < w.heap.size → w'.heap[g]? = w.heap[g]?) : RepI w' x cs := by
  induction h with
  | node k t n l T A g o c css hT h0 h1 hl hm hA h4 hcell hc ih =>
    refine .node k t n l T A g o c css hT h0 h1 hl hm (fun h => ⟨(hA h).1, Nat.lt_of_lt_of_le (hA h).2 hs⟩) h4 (fun j f hj hf => ?_) ih
    exact (World.cell?_of_block (w := w) (a := ⟨g, o + j * 4 + f, none⟩) (hk g (hA (by omega)).2)).trans (hcell j f hj hf)

theorem RepI.low {w w' : World} {x : RI} {cs : List Value} (h : RepI w x cs) (hb : Below w.heap.size w w') : RepI w' x cs := h.keep hb.size fun g hg => hb.block g hg

/-- Such values, one by one. -/
theorem RepI.form {w : World} {k : Int} {t : List UInt8} {n : Int} {l : List RI} {cs : List Value} (h : RepI w (.node k t n l) cs) :
    ∃ (T : ByteArray) (A : Option Addr) (c : Nat), cs = [.int .i64 k, .string T, .int .i64 n, .slice A l.length c] ∧ T.data.toList = t ∧ l.length ≤ 9223372036854775807 ∧ (-9223372036854775808 ≤ n ∧ n ≤ 9223372036854775807) ∧ ∀ (j : Nat) (x : RI), l[j]? = some x → ∃ (g o : Nat) (v0 v1 v2 v3 : Value), A = some ⟨g, o, none⟩ ∧ g < w.heap.size ∧
      (w.cell? ⟨g, o + j * 4, none⟩ = some v0 ∧ w.cell? ⟨g, o + j * 4 + 1, none⟩ = some v1 ∧ w.cell? ⟨g, o + j * 4 + 2, none⟩ = some v2 ∧ w.cell? ⟨g, o + j * 4 + 3, none⟩ = some v3) ∧ RepI w x [v0, v1, v2, v3] := by
  cases h with
  | node _ _ _ _ T A g o c css hT h0 h1 hl hm hA h4 hcell hc =>
    refine ⟨T, _, c, rfl, hT, by omega, ⟨h0, h1⟩, fun j x hx => ?_⟩
    have hj : j < l.length := (List.getElem?_eq_some_iff.1 hx).1
    have h4j := h4 j hj
    have hcx := hc j x hx
    have hcj := fun f hf => hcell j f hj hf
    obtain ⟨v0, v1, v2, v3, hv⟩ : ∃ v0 v1 v2 v3, css j = [v0, v1, v2, v3] := by
      match css j, h4j with
      | [a, b, c, d], _ => exact ⟨a, b, c, d, rfl⟩
    rw [hv] at hcx hcj
    obtain ⟨rfl, hg⟩ := hA (by omega)
    exact ⟨g, o, v0, v1, v2, v3, rfl, hg, ⟨hcj 0 (by decide), hcj 1 (by decide), hcj 2 (by decide), hcj 3 (by decide)⟩, hcx⟩

/-- What the values are, each of its kind. -/
theorem RepI.parts {w : World} {x : RI} {cs : List Value} (h : RepI w x cs) : ∃ (k : Int) (T : ByteArray) (n : Int) (A : Option Addr) (m c : Nat), cs = [.int .i64 k, .string T, .int .i64 n, .slice A m c] := by
  cases h with
  | node k t n l T A g o c css hT h0 h1 hl hm hA h4 hcell hc => exact ⟨_, _, _, _, _, _, rfl⟩

def partsI (css : Nat → List Value) : Parts where
  k j := match css j with | .int _ i :: _ => i | _ => 0
  t j := match css j with | [_, .string T, _, _] => T | _ => ⟨#[]⟩
  n j := match css j with | [_, _, .int _ i, _] => i | _ => 0
  a j := match css j with | [_, _, _, .slice A _ _] => A | _ => none
  m j := match css j with | [_, _, _, .slice _ m _] => m | _ => 0
  c j := match css j with | [_, _, _, .slice _ _ c] => c | _ => 0

theorem partsI_val {css : Nat → List Value} {j : Nat} {k : Int} {T : ByteArray} {n : Int} {A : Option Addr} {m c : Nat} (h : css j = [.int .i64 k, .string T, .int .i64 n, .slice A m c]) :
    (partsI css).k j = k ∧ (partsI css).t j = T ∧ (partsI css).n j = n ∧ (partsI css).a j = A ∧ (partsI css).m j = m ∧ (partsI css).c j = c := by
  unfold partsI
  simp only [h]
  exact ⟨trivial, trivial, trivial, trivial, trivial, trivial⟩

/-- The row of a list, its parts, and each part as a tree. -/
theorem RepI.row {w : World} {k : Int} {t : List UInt8} {n : Int} {l : List RI} {cs : List Value} (h : RepI w (.node k t n l) cs) :
    ∃ (T : ByteArray) (A : Option Addr) (g o c : Nat) (p : Parts), cs = [.int .i64 k, .string T, .int .i64 n, .slice A l.length c] ∧ T.data.toList = t ∧ l.length ≤ c ∧ c ≤ 9223372036854775807 ∧ (-9223372036854775808 ≤ n ∧ n ≤ 9223372036854775807) ∧ (0 < l.length → A = some ⟨g, o, none⟩ ∧ g < w.heap.size) ∧ p.At w g o l.length ∧
      ∀ (j : Nat) (x : RI), l[j]? = some x → RepI w x [.int .i64 (p.k j), .string (p.t j), .int .i64 (p.n j), .slice (p.a j) (p.m j) (p.c j)] := by
  cases h with
  | node _ _ _ _ T A g o c css hT h0 h1 hl hm hA h4 hcell hc =>
    refine ⟨T, A, g, o, c, partsI css, rfl, hT, hl, hm, ⟨h0, h1⟩, hA, fun j hj => ?_, fun j x hx => ?_⟩
    · obtain ⟨x, hx⟩ : ∃ x, l[j]? = some x := ⟨_, List.getElem?_eq_getElem hj⟩
      obtain ⟨k', T', n', A', m', c', hf⟩ := (hc j x hx).parts
      obtain ⟨e1, e2, e3, e4, e5, e6⟩ := partsI_val hf
      rw [e1, e2, e3, e4, e5, e6]
      have q := fun f hf' => hcell j f hj hf'
      rw [hf] at q
      exact ⟨q 0 (by decide), q 1 (by decide), q 2 (by decide), q 3 (by decide)⟩
    · have hx' := hc j x hx
      obtain ⟨k', T', n', A', m', c', hf⟩ := hx'.parts
      obtain ⟨e1, e2, e3, e4, e5, e6⟩ := partsI_val hf
      rw [e1, e2, e3, e4, e5, e6, ← hf]
      exact hx'

/-- How many values and letters a reply has, at the least. -/
def bulkI : RI → Nat
  | .node _ t _ l => 5 + t.length + bulkIs l
where
  bulkIs : List RI → Nat
  | [] => 0
  | x :: l => bulkI x + bulkIs l

theorem bulkIs_mem : ∀ {l : List RI} {x : RI}, x ∈ l → bulkI x ≤ bulkI.bulkIs l
  | y :: l, x, h => by
    rw [bulkI.bulkIs]
    rcases List.mem_cons.1 h with rfl | h
    · omega
    · have := bulkIs_mem h; omega

theorem bulkI_pos (x : RI) : 5 ≤ bulkI x := by
  obtain ⟨k, t, n, l⟩ := x
  rw [bulkI]; omega

theorem bulkIs_len : ∀ (l : List RI), 5 * l.length ≤ bulkI.bulkIs l
  | [] => by simp
  | x :: l => by
    have h1 := bulkI_pos x
    have h2 := bulkIs_len l
    rw [bulkI.bulkIs, List.length_cons]; omega

/-- Whether a tree may be, but for how deep it is. -/
def mayI : RI → Bool
  | .node k t n l =>
    if k = 6 then t.isEmpty && (decide (n = 0) && (decide (l.length ≤ 131072) && mayIs l))
    else leafOk k ⟨t.toArray⟩ n l.length
where
  mayIs : List RI → Bool
  | [] => true
  | x :: l => mayI x && mayIs l

theorem mayIs_get : ∀ (l : List RI) (ok : Nat → Bool), (∀ j x, l[j]? = some x → ok j = mayI x) → allOk l.length ok = mayI.mayIs l
  | [], ok, _ => rfl
  | x :: l, ok, h => by
    have ih := mayIs_get l (fun j => ok (j + 1)) (fun j y hy => h (j + 1) y (by simpa using hy))
    rw [mayI.mayIs, ← h 0 x rfl, ← ih]
    cases h0 : ok 0 with
    | true =>
      rw [Bool.true_and, Bool.eq_iff_iff, allOk_iff, allOk_iff]
      refine ⟨fun q j hj => q (j + 1) (by rw [List.length_cons]; omega), fun q j hj => ?_⟩
      cases j with
      | zero => exact h0
      | succ j => exact q j (by rw [List.length_cons] at hj; omega)
    | false =>
      rw [Bool.false_and]
      cases hq : allOk (x :: l).length ok with
      | false => rfl
      | true =>
        have := (allOk_iff _ _).1 hq 0 (by rw [List.length_cons]; omega)
        rw [h0] at this
        cases this

theorem textI_eq {T : ByteArray} {t : List UInt8} (h : T.data.toList = t) : T = ⟨t.toArray⟩ := by
  subst h
  rfl

theorem pmayBe_I : ∀ (N : Nat) (x : RI), bulkI x ≤ N → N ≤ 1048576 → ∀ (w : World) (cs : List Value), RepI w x cs → ∀ w', Below w.heap.size w w' → MayBeTells (.agg cs.toArray) (mayI x) w' := by
  intro N
  induction N with
  | zero => intro x hx; have := bulkI_pos x; omega
  | succ N ih =>
    intro x hx hN w cs h w' hb
    obtain ⟨k, t, n, l⟩ := x
    obtain ⟨T, A, g, o, c, p, rfl, hT, hl, hm, _, hA, hAt, hc⟩ := h.row
    rw [bulkI] at hx
    have hs : T.size ≤ 9223372036854775807 := by rw [Lib.size_eq, hT]; omega
    by_cases hk : k = 6
    · subst hk
      have hx : ∀ j, j < l.length → ∃ x, l[j]? = some x := fun j hj => ⟨_, List.getElem?_eq_getElem hj⟩
      have h1 := pmayBe_array_any T n A g o l.length c p (fun j => match l[j]? with | some x => mayI x | none => true) w' (fun q => (hA q).1) (fun i hi => (hAt.below hb (hA (by omega)).2) i hi) (fun j hj w2 hb2 => by
        obtain ⟨x, hx⟩ := hx j hj
        have h2 := ih x (by have := bulkIs_mem (List.mem_of_getElem? hx); omega) (by omega) w _ (hc j x hx) w2 (hb.trans (hb2.mono hb.size))
        unfold Parts.val
        simp only [hx]
        exact h2)
      rw [Lib.toList_data, hT, mayIs_get l _ (fun j x hx => by simp only [hx])] at h1
      exact h1
    · have h1 := pmayBe_leaf k hk T n A l.length c w' hs
      unfold MayBeTells
      rw [mayI, if_neg hk, ← textI_eq hT]
      exact h1

def NestsTells (v : Value) (d : Int) (r : Bool) (w : World) : Prop := Calls Tryd.prog 17 #[v, .int .i64 d] w fun e w' => e = .returned (.bool r) ∧ Below w.heap.size w w'

set_option maxRecDepth 100000 in
set_option maxHeartbeats 2000000 in
theorem pnests1_of (k : Int) (T : ByteArray) (n : Int) (A : Option Addr) (m c : Nat) (M : Int) (B : Nat) (r : Bool) (w : World) (hM : 1 ≤ M ∧ M ≤ 8) (hB : w.cell? ⟨B, 0, none⟩ = some (.int .i64 M)) (HM : ∀ w', Below w.heap.size w w' → NestsTells (.agg #[.int .i64 k, .string T, .int .i64 n, .slice A m c]) (M - 1) r w') :
    Calls Tryd.prog 27 #[.agg #[.int .i64 k, .string T, .int .i64 n, .slice A m c], .pointer (some ⟨B, 0, none⟩)] w fun e w' => e = .returned (.bool r) ∧ Below w.heap.size w w' := by
  have HH := Lib.hid HM
  have hBw : B < w.heap.size := World.block_lt_of_cell? w _ hB
  clear HM
  go_enter Tryd.func27, Tryd.ntmps27
  go_wp2_with fail
  refine Calls.mono (HH.out _ ((Below.refl w.heap.size w).alloc (Nat.le_refl _) _)) ?_
  rintro e w2 ⟨rfl, hb2⟩
  have HB := Lib.hid (((Below.refl w.heap.size w).alloc (Nat.le_refl _) _).trans (hb2.mono (by simp)))
  clear hb2
  go_wp2
  go_ret
  exact ⟨rfl, HB.out⟩

set_option maxRecDepth 100000 in
set_option maxHeartbeats 4000000 in
theorem pindexFunc_nests (LA : Option Addr) (b o n cap : Nat) (p : Parts) (ok : Nat → Bool) (M : Int) (B : Nat) (w : World) (hM : 1 ≤ M ∧ M ≤ 8) (hB : w.cell? ⟨B, 0, none⟩ = some (.int .i64 M)) (hLA : 0 < n → LA = some ⟨b, o, none⟩) (hc : p.At w b o n) (hbig : n ≤ 140737488351232)
    (hT : ∀ i, i < n → ∀ w', Below w.heap.size w w' → NestsTells (p.val i) (M - 1) (ok i) w') :
    Calls Tryd.prog 35 #[.slice LA n cap, .func (.func 27) #[] #[.pointer (some ⟨B, 0, none⟩)]] w fun e w' => ∃ i : Int, e = .returned (.int .i64 i) ∧ (0 ≤ i ↔ ∃ j, j < n ∧ ok j = true) ∧ -1 ≤ i ∧ i ≤ n ∧ Below w.heap.size w w' := by
  have HC := Lib.hid hc
  have HTT := Lib.hid hT
  have HLA := Lib.hid hLA
  have HBB := Lib.hid hB
  have hBw : B < w.heap.size := World.block_lt_of_cell? w _ hB
  clear hc hT hLA hB
  go_enter Tryd.func35, Tryd.ntmps35
  go_wp2
  go_loopw [5, 8] (fun _ i wr => ∃ k : Nat, i = .int .i64 k ∧ k ≤ n ∧ Below w.heap.size w wr ∧ Hid (∀ j, j < k → ok j = false)) (fun _ i _ => n - (intOf i).toNat)
  case atStart => exact ⟨0, rfl, by omega, Below.refl _ _, fun t ht => by omega⟩
  case round =>
    obtain ⟨k, rfl, hk, hbl, HK⟩ := hrel
    have HBL := Lib.hid hbl
    have hzr := hbl.size
    have HBR := Lib.hid ((hbl.cell (p := ⟨B, 0, none⟩) hBw).trans HBB.out)
    clear hbl
    by_cases hlt : k < n
    · obtain rfl : LA = some ⟨b, o, none⟩ := HLA.out (by omega)
      have hbw : b < w.heap.size := World.block_lt_of_cell? w _ (HC.out k hlt).1
      obtain ⟨c0, c1, c2, c3⟩ := (HC.out.below HBL.out hbw) k hlt
      have HM := Lib.hid (pnests1_of (p.k k) (p.t k) (p.n k) (p.a k) (p.m k) (p.c k) M B (ok k) wr hM HBR.out (fun w' hb => HTT.out k hlt w' (HBL.out.trans (hb.mono hzr))))
      generalize p.k k = k0 at c0 HM
      generalize p.t k = t0 at c1 HM
      generalize p.n k = n0 at c2 HM
      generalize p.a k = a0 at c3 HM
      generalize p.m k = m0 at c3 HM
      generalize p.c k = cc0 at c3 HM
      cases hok : ok k with
      | false =>
        rw [hok] at HM
        go_wp2_with fail
        refine HM.out.mono ?_
        rintro e w2 ⟨rfl, hb2⟩
        have HB2 := Lib.hid (HBL.out.trans (hb2.mono hzr))
        clear hb2
        go_wp2
        go_roundw
        case rel => exact ⟨k + 1, by go_num, by omega, HB2.out, fun j hj => by
          rcases Nat.lt_or_ge j k with h | h
          · exact HK.out j h
          · obtain rfl : j = k := by omega
            exact hok⟩
        case measure => simp only [intOf]; omega
      | true =>
        rw [hok] at HM
        go_wp2_with fail
        refine HM.out.mono ?_
        rintro e w2 ⟨rfl, hb2⟩
        have HB2 := Lib.hid (HBL.out.trans (hb2.mono hzr))
        clear hb2
        go_wp2
        go_ret
        exact ⟨_, rfl, ⟨fun _ => ⟨k, hlt, hok⟩, fun _ => by omega⟩, by omega, by omega, HB2.out⟩
    · obtain rfl : k = n := by omega
      go_wp2
      go_ret
      exact ⟨_, rfl, ⟨fun h => by omega, fun ⟨j, h1, h2⟩ => by rw [HK.out j h1] at h2; cases h2⟩, by omega, by omega, HBL.out⟩

/-- Whether one does. -/
def anyOk (n : Nat) (ok : Nat → Bool) : Bool := (List.range n).any ok
theorem anyOk_iff (n : Nat) (ok : Nat → Bool) : anyOk n ok = true ↔ ∃ j, j < n ∧ ok j = true := by unfold anyOk; simp

set_option maxRecDepth 100000 in
set_option maxHeartbeats 2000000 in
theorem pcontainsFunc_nests (LA : Option Addr) (b o n cap : Nat) (p : Parts) (ok : Nat → Bool) (M : Int) (B : Nat) (w : World) (hM : 1 ≤ M ∧ M ≤ 8) (hB : w.cell? ⟨B, 0, none⟩ = some (.int .i64 M)) (hLA : 0 < n → LA = some ⟨b, o, none⟩) (hc : p.At w b o n) (hbig : n ≤ 140737488351232)
    (hT : ∀ i, i < n → ∀ w', Below w.heap.size w w' → NestsTells (p.val i) (M - 1) (ok i) w') :
    Calls Tryd.prog 26 #[.slice LA n cap, .func (.func 27) #[] #[.pointer (some ⟨B, 0, none⟩)]] w fun e w' => e = .returned (.bool (anyOk n ok)) ∧ Below w.heap.size w w' := by
  have HI := Lib.hid (pindexFunc_nests LA b o n cap p ok M B w hM hB hLA hc hbig hT)
  clear hLA hc hT hB
  go_enter Tryd.func26, Tryd.ntmps26
  go_wp2_with fail
  refine HI.out.mono ?_
  rintro e w2 ⟨i, rfl, h1, h2, h3, hb2⟩
  have HB := Lib.hid hb2
  have HE : Hid (anyOk n ok = decide (0 ≤ i)) := by
    unfold Hid
    rw [Bool.eq_iff_iff, anyOk_iff, decide_eq_true_iff]
    exact h1.symm
  clear hb2 h1
  go_wp2
  go_ret
  refine ⟨?_, HB.out⟩
  rw [HE.out]
  rfl

/-- More than so many arrays stand in one another. -/
def nestsI : RI → Nat → Bool
  | .node k _ _ l, d => if k = 6 then (match d with | 0 => true | d + 1 => nestsIs l d) else false
where
  nestsIs : List RI → Nat → Bool
  | [], _ => false
  | x :: l, d => nestsI x d || nestsIs l d

theorem nestsIs_get (d : Nat) : ∀ (l : List RI) (ok : Nat → Bool), (∀ j x, l[j]? = some x → ok j = nestsI x d) → anyOk l.length ok = nestsI.nestsIs l d
  | [], ok, _ => rfl
  | x :: l, ok, h => by
    have ih := nestsIs_get d l (fun j => ok (j + 1)) (fun j y hy => h (j + 1) y (by simpa using hy))
    rw [nestsI.nestsIs, ← h 0 x rfl, ← ih, Bool.eq_iff_iff, Bool.or_eq_true, anyOk_iff, anyOk_iff]
    constructor
    · rintro ⟨j, hj, hq⟩
      cases j with
      | zero => exact Or.inl hq
      | succ j => exact Or.inr ⟨j, by rw [List.length_cons] at hj; omega, hq⟩
    · rintro (hq | ⟨j, hj, hq⟩)
      · exact ⟨0, by rw [List.length_cons]; omega, hq⟩
      · exact ⟨j + 1, by rw [List.length_cons]; omega, hq⟩

set_option maxRecDepth 100000 in
set_option maxHeartbeats 2000000 in
theorem pnests_other (k : Int) (hk : k ≠ 6) (T : ByteArray) (n : Int) (A : Option Addr) (m c : Nat) (d : Int) (w : World) : NestsTells (.agg #[.int .i64 k, .string T, .int .i64 n, .slice A m c]) d false w := by
  have hk' : (k != 6) = true := by simp [hk]
  unfold NestsTells
  go_enter Tryd.func17, Tryd.ntmps17
  go_wp2
  go_ret
  exact ⟨rfl, ((Below.refl _ _).alloc (Nat.le_refl _) _).alloc (by simp) _⟩

set_option maxRecDepth 100000 in
set_option maxHeartbeats 2000000 in
theorem pnests_zero (T : ByteArray) (n : Int) (A : Option Addr) (m c : Nat) (w : World) : NestsTells (.agg #[.int .i64 6, .string T, .int .i64 n, .slice A m c]) 0 true w := by
  unfold NestsTells
  go_enter Tryd.func17, Tryd.ntmps17
  go_wp2
  go_ret
  exact ⟨rfl, ((Below.refl _ _).alloc (Nat.le_refl _) _).alloc (by simp) _⟩

set_option maxRecDepth 100000 in
set_option maxHeartbeats 4000000 in
theorem pnests_more (T : ByteArray) (num : Int) (LA : Option Addr) (b o n cap : Nat) (p : Parts) (ok : Nat → Bool) (M : Int) (w : World) (hM : 1 ≤ M ∧ M ≤ 8) (hLA : 0 < n → LA = some ⟨b, o, none⟩) (hc : p.At w b o n) (hbig : n ≤ 140737488351232)
    (hT : ∀ i, i < n → ∀ w', Below w.heap.size w w' → NestsTells (p.val i) (M - 1) (ok i) w') : NestsTells (.agg #[.int .i64 6, .string T, .int .i64 num, .slice LA n cap]) M (anyOk n ok) w := by
  have hbw : 0 < n → b < w.heap.size := fun h => World.block_lt_of_cell? w _ (hc 0 h).1
  have HCF := Lib.hid (fun w2 (hb2 : Below w.heap.size w w2) B (hB : w2.cell? ⟨B, 0, none⟩ = some (.int .i64 M)) => pcontainsFunc_nests LA b o n cap p ok M B w2 hM hB hLA (fun i hi => (hc.below hb2 (hbw (by omega))) i hi) hbig (fun i hi w' hb' => hT i hi w' (hb2.trans (hb'.mono hb2.size))))
  have h0 : (M == 0) = false := by rw [beq_eq_false_iff_ne]; omega
  clear hLA hc hT hbw
  unfold NestsTells
  go_enter Tryd.func17, Tryd.ntmps17
  go_wp2_with fail
  refine (HCF.out _ (((Below.refl w.heap.size w).alloc (Nat.le_refl _) _).alloc (by simp) _) _ ?_).mono ?_
  · have hh := World.alloc_heap_new (w.alloc (.cells #[.int .i64 6, .string T, .int .i64 num, .slice LA n cap] 25)) (.cells #[.int .i64 M] 3)
    rw [World.size_alloc] at hh
    exact (cell_in hh).trans rfl
  rintro e w2 ⟨rfl, hb2⟩
  have HB := Lib.hid ((((Below.refl w.heap.size w).alloc (Nat.le_refl _) _).alloc (by simp) _).trans (hb2.mono (by simp <;> omega)))
  clear hb2
  cases hA : anyOk n ok
  all_goals
    go_wp2
    go_ret
    exact ⟨by simp [hA], HB.out⟩

theorem pnests_I : ∀ (N : Nat) (x : RI), bulkI x ≤ N → N ≤ 1048576 → ∀ (d : Nat), d ≤ 8 → ∀ (w : World) (cs : List Value), RepI w x cs → ∀ w', Below w.heap.size w w' → NestsTells (.agg cs.toArray) (d : Int) (nestsI x d) w' := by
  intro N
  induction N with
  | zero => intro x hx; have := bulkI_pos x; omega
  | succ N ih =>
    intro x hx hN d hd w cs h w' hb
    obtain ⟨k, t, n, l⟩ := x
    obtain ⟨T, A, g, o, c, p, rfl, hT, hl, hm, _, hA, hAt, hc⟩ := h.row
    rw [bulkI] at hx
    rw [nestsI.eq_def]
    dsimp only
    by_cases hk : k = 6
    · subst hk
      rw [if_pos rfl]
      cases d with
      | zero => exact pnests_zero T n A l.length c w'
      | succ d =>
        have hx : ∀ j, j < l.length → ∃ x, l[j]? = some x := fun j hj => ⟨_, List.getElem?_eq_getElem hj⟩
        have h1 := pnests_more T n A g o l.length c p (fun j => match l[j]? with | some x => nestsI x d | none => false) ((d + 1 : Nat) : Int) w' (by omega) (fun q => (hA q).1) (fun i hi => (hAt.below hb (hA (by omega)).2) i hi) (by have := bulkIs_len l; omega) (fun j hj w2 hb2 => by
          obtain ⟨x, hx⟩ := hx j hj
          have h2 := ih x (by have := bulkIs_mem (List.mem_of_getElem? hx); omega) (by omega) d (by omega) w _ (hc j x hx) w2 (hb.trans (hb2.mono hb.size))
          unfold Parts.val
          simp only [hx]
          rw [show ((d + 1 : Nat) : Int) - 1 = (d : Int) from by omega]
          exact h2)
        rw [nestsIs_get d l _ (fun j x hx => by simp only [hx])] at h1
        exact h1
    · rw [if_neg hk]
      exact pnests_other k hk T n A l.length c d w'

/-- A reply's bytes. -/
def writeI : RI → List UInt8
  | .node k t n l =>
    if k = 1 then 43 :: (t ++ [13, 10])
    else if k = 2 then 45 :: (t ++ [13, 10])
    else if k = 3 then 58 :: (Lib.itoa n ++ [13, 10])
    else if k = 4 then bulkW t
    else if k = 5 then [36, 45, 49, 13, 10]
    else if k = 7 then [42, 45, 49, 13, 10]
    else 42 :: (Lib.itoa l.length ++ 13 :: 10 :: writeIs l)
where
  writeIs : List RI → List UInt8
  | [] => []
  | x :: l => writeI x ++ writeIs l

/-- Some bytes with a reply's behind them. -/
def PutsR (base : Nat) (cv : Value) (y : List UInt8) (w : World) : Prop := ∀ (v : Value) (l : List UInt8), w.ownsRow base 5 1 v l.length (Lib.byteCells l) → l.length + y.length ≤ 1099400000000 → Calls Tryd.prog 15 #[v, cv] w (Rowed w base v (l ++ y))

set_option maxRecDepth 100000 in
set_option maxHeartbeats 4000000 in
theorem pput_line (base : Nat) (k : Int) (m : UInt8) (hk : k = 1 ∧ m = 43 ∨ k = 2 ∧ m = 45) (T : ByteArray) (t : List UInt8) (n : Int) (LA : Option Addr) (j cap : Nat) (w : World) (hb : base ≤ w.heap.size) (hx : T.data.toList = t) :
    PutsR base (.agg #[.int .i64 k, .string T, .int .i64 n, .slice LA j cap]) (m :: (t ++ [13, 10])) w := by
  intro v l hown hl
  obtain ⟨A, c, rfl⟩ := ownsRow_form hown
  have HOW := Lib.hid hown
  have HX := Lib.hid hx
  have HL : Hid (l.length + t.length ≤ 1099511627770) := by unfold Hid; simp only [List.length_cons, List.length_append, List.length_nil] at hl; omega
  clear hown hx hl
  rcases hk with ⟨rfl, rfl⟩ | ⟨rfl, rfl⟩
  · go_enter Tryd.func15, Tryd.ntmps15
    go_wp2_with fail
    refine (ywithLine_any base _ l 43 43 T t _ rfl (HOW.out.alloc _) HX.out (by simp; omega) HL.out).mono ?_
    rintro e w2 ⟨v2, rfl, hown2, hg2⟩
    obtain ⟨y, hy⟩ : ∃ y, l ++ 43 :: t ++ [13, 10] = y := ⟨_, rfl⟩
    rw [hy] at hown2
    have HYY := Lib.hid hy
    have HG2 := Lib.hid (Grew.after ((Below.refl w.heap.size w).alloc (Nat.le_refl _) _) hg2)
    have HO2 := Lib.hid hown2
    obtain ⟨A2, c2, rfl⟩ := ownsRow_form hown2
    clear hown2 hg2 hy
    go_wp2
    go_ret
    refine ⟨_, rfl, ?_, HG2.out⟩
    rw [show l ++ 43 :: (t ++ [13, 10]) = y from by rw [← HYY.out]; simp]
    exact HO2.out
  · go_enter Tryd.func15, Tryd.ntmps15
    go_wp2_with fail
    refine (ywithLine_any base _ l 45 45 T t _ rfl (HOW.out.alloc _) HX.out (by simp; omega) HL.out).mono ?_
    rintro e w2 ⟨v2, rfl, hown2, hg2⟩
    obtain ⟨y, hy⟩ : ∃ y, l ++ 45 :: t ++ [13, 10] = y := ⟨_, rfl⟩
    rw [hy] at hown2
    have HYY := Lib.hid hy
    have HG2 := Lib.hid (Grew.after ((Below.refl w.heap.size w).alloc (Nat.le_refl _) _) hg2)
    have HO2 := Lib.hid hown2
    obtain ⟨A2, c2, rfl⟩ := ownsRow_form hown2
    clear hown2 hg2 hy
    go_wp2
    go_ret
    refine ⟨_, rfl, ?_, HG2.out⟩
    rw [show l ++ 45 :: (t ++ [13, 10]) = y from by rw [← HYY.out]; simp]
    exact HO2.out

set_option maxRecDepth 100000 in
set_option maxHeartbeats 4000000 in
theorem pput_nils (base : Nat) (k : Int) (m : UInt8) (hk : k = 5 ∧ m = 36 ∨ k = 7 ∧ m = 42) (T : ByteArray) (n : Int) (LA : Option Addr) (j cap : Nat) (w : World) (hb : base ≤ w.heap.size) :
    PutsR base (.agg #[.int .i64 k, .string T, .int .i64 n, .slice LA j cap]) [m, 45, 49, 13, 10] w := by
  intro v l hown hl
  obtain ⟨A, c, rfl⟩ := ownsRow_form hown
  have HOW := Lib.hid hown
  have HL : Hid (l.length + [45, 49].length ≤ 1099511627770) := by unfold Hid; simp only [List.length_cons, List.length_nil] at hl ⊢; omega
  clear hown hl
  rcases hk with ⟨rfl, rfl⟩ | ⟨rfl, rfl⟩
  · go_enter Tryd.func15, Tryd.ntmps15
    go_wp2_with fail
    refine (ywithLine_any base _ l 36 36 ⟨#[45, 49]⟩ [45, 49] _ rfl (HOW.out.alloc _) rfl (by simp; omega) HL.out).mono ?_
    rintro e w2 ⟨v2, rfl, hown2, hg2⟩
    obtain ⟨y, hy⟩ : ∃ y, l ++ 36 :: [45, 49] ++ [13, 10] = y := ⟨_, rfl⟩
    rw [hy] at hown2
    have HYY := Lib.hid hy
    have HG2 := Lib.hid (Grew.after ((Below.refl w.heap.size w).alloc (Nat.le_refl _) _) hg2)
    have HO2 := Lib.hid hown2
    obtain ⟨A2, c2, rfl⟩ := ownsRow_form hown2
    clear hown2 hg2 hy
    go_wp2
    go_ret
    refine ⟨_, rfl, ?_, HG2.out⟩
    rw [show l ++ [36, 45, 49, 13, 10] = y from by rw [← HYY.out]; simp]
    exact HO2.out
  · go_enter Tryd.func15, Tryd.ntmps15
    go_wp2_with fail
    refine (ywithLine_any base _ l 42 42 ⟨#[45, 49]⟩ [45, 49] _ rfl (HOW.out.alloc _) rfl (by simp; omega) HL.out).mono ?_
    rintro e w2 ⟨v2, rfl, hown2, hg2⟩
    obtain ⟨y, hy⟩ : ∃ y, l ++ 42 :: [45, 49] ++ [13, 10] = y := ⟨_, rfl⟩
    rw [hy] at hown2
    have HYY := Lib.hid hy
    have HG2 := Lib.hid (Grew.after ((Below.refl w.heap.size w).alloc (Nat.le_refl _) _) hg2)
    have HO2 := Lib.hid hown2
    obtain ⟨A2, c2, rfl⟩ := ownsRow_form hown2
    clear hown2 hg2 hy
    go_wp2
    go_ret
    refine ⟨_, rfl, ?_, HG2.out⟩
    rw [show l ++ [42, 45, 49, 13, 10] = y from by rw [← HYY.out]; simp]
    exact HO2.out

set_option maxRecDepth 100000 in
set_option maxHeartbeats 4000000 in
theorem pput_int (base : Nat) (T : ByteArray) (n : Int) (LA : Option Addr) (j cap : Nat) (w : World) (hb : base ≤ w.heap.size) (h0 : -9223372036854775808 ≤ n) (h1 : n ≤ 9223372036854775807) (hp : Pows w) (hB : 1 < base) :
    PutsR base (.agg #[.int .i64 3, .string T, .int .i64 n, .slice LA j cap]) (58 :: (Lib.itoa n ++ [13, 10])) w := by
  intro v l hown hl
  obtain ⟨A, c, rfl⟩ := ownsRow_form hown
  have HOW := Lib.hid hown
  have HL : Hid (l.length + (Lib.itoa n).length ≤ 1099511627770) := by unfold Hid; simp only [List.length_cons, List.length_append, List.length_nil] at hl; omega
  have HTX := Lib.hid (fun w2 (hb2 : Below w.heap.size w w2) => text_any n w2 h0 h1 (hp.on hb2 (by omega)))
  clear hown hl hp
  go_enter Tryd.func15, Tryd.ntmps15
  go_wp2_with fail
  refine (HTX.out _ ((Below.refl w.heap.size w).alloc (Nat.le_refl _) _)).mono ?_
  rintro e w1 ⟨rfl, hb1⟩
  have hbw1 : Below w.heap.size w w1 := ((Below.refl w.heap.size w).alloc (Nat.le_refl _) _).trans (hb1.mono (by simp))
  have hz1 := hbw1.size
  have HB1 := Lib.hid hbw1
  have HO1 := Lib.hid (ownsRow_below HOW.out hbw1)
  clear hb1 hbw1 HTX
  go_wp2_with fail
  refine (ywithLine_any base _ l 58 58 ⟨(Lib.itoa n).toArray⟩ (Lib.itoa n) w1 rfl HO1.out rfl (by omega) HL.out).mono ?_
  rintro e w2 ⟨v2, rfl, hown2, hg2⟩
  obtain ⟨y, hy⟩ : ∃ y, l ++ 58 :: Lib.itoa n ++ [13, 10] = y := ⟨_, rfl⟩
  rw [hy] at hown2
  have HYY := Lib.hid hy
  have HG2 := Lib.hid (Grew.after HB1.out hg2)
  have HO2 := Lib.hid hown2
  obtain ⟨A2, c2, rfl⟩ := ownsRow_form hown2
  clear hown2 hg2 hy
  go_wp2
  go_ret
  refine ⟨_, rfl, ?_, HG2.out⟩
  rw [show l ++ 58 :: (Lib.itoa n ++ [13, 10]) = y from by rw [← HYY.out]; simp]
  exact HO2.out

set_option maxRecDepth 100000 in
set_option maxHeartbeats 4000000 in
theorem pput_bulk (base : Nat) (T : ByteArray) (t : List UInt8) (n : Int) (LA : Option Addr) (j cap : Nat) (w : World) (hb : base ≤ w.heap.size) (hx : T.data.toList = t) (hp : Pows w) (hB : 1 < base) :
    PutsR base (.agg #[.int .i64 4, .string T, .int .i64 n, .slice LA j cap]) (bulkW t) w := by
  intro v l hown hl
  obtain ⟨i0, hi, hy0, hy1, hy2⟩ := info_parts info_u8
  obtain ⟨A, c, rfl⟩ := ownsRow_form hown
  have hT : T.size = t.length := by rw [← hx, Array.length_toList]; rfl
  have HT := Lib.hid hT
  have HX := Lib.hid hx
  have hlt : l.length + (Lib.itoa (T.size : Int)).length + t.length + 5 ≤ 1099400000000 := by
    rw [hT]
    simp only [bulkW, List.length_cons, List.length_append, List.length_nil] at hl
    omega
  have hTb : T.size ≤ 1099400000000 := by omega
  have HOW := Lib.hid hown
  have HTX := Lib.hid (fun w2 (hb2 : Below w.heap.size w w2) => text_any T.size w2 (by omega) (by omega) (hp.on hb2 (by omega)))
  have hne : (Value.slice A l.length c).ownBlock ≠ some w.heap.size := fun e => by have := (own_lt hown e).2; omega
  obtain ⟨I, hI⟩ : ∃ I, Lib.itoa (T.size : Int) = I := ⟨_, rfl⟩
  have HI := Lib.hid hI
  rw [hI] at hlt HTX
  clear hx hT hown hp hI hl
  go_enter Tryd.func15, Tryd.ntmps15
  go_wp2_with fail
  refine (HTX.out _ ((Below.refl w.heap.size w).alloc (Nat.le_refl _) _)).mono ?_
  rintro e w1 ⟨rfl, hb1⟩
  have hbw1 : Below w.heap.size w w1 := ((Below.refl w.heap.size w).alloc (Nat.le_refl _) _).trans (hb1.mono (by simp))
  have hc1 : w1.cell? ⟨w.heap.size, 1, none⟩ = some (.string T) := ((hb1.cell (p := ⟨w.heap.size, 1, none⟩) (by simp)).trans (cell_in (World.alloc_heap_new w (.cells #[.int .i64 4, .string T, .int .i64 n, .slice LA j cap] 25)))).trans rfl
  have hz1 : w.heap.size < w1.heap.size := by have := hb1.size; rw [World.size_alloc] at this; omega
  have HB1 := Lib.hid hbw1
  have HO1 := Lib.hid (ownsRow_below HOW.out hbw1)
  clear hb1 hbw1 HTX
  go_wp2_with fail
  refine (ywithLine_any base _ l 36 36 ⟨I.toArray⟩ I w1 rfl HO1.out rfl (by omega) (by omega)).mono ?_
  rintro e w2 ⟨v2, rfl, hown2, hg2⟩
  have hc2 := (hg2.cell (p := ⟨w.heap.size, 1, none⟩) hz1 hne).trans hc1
  have hl2 : (l ++ (36 :: I) ++ [13, 10]).length + t.length ≤ 1099400000000 := by simp only [List.length_append, List.length_cons, List.length_nil]; omega
  obtain ⟨y, hy⟩ : ∃ y, l ++ (36 :: I) ++ [13, 10] = y := ⟨_, rfl⟩
  rw [hy] at hown2 hl2
  have HYY := Lib.hid hy
  have HG2 := Lib.hid (Grew.after HB1.out hg2)
  obtain ⟨A2, c2, rfl⟩ := ownsRow_form hown2
  have hzz2 : base ≤ w2.heap.size := by have := HG2.out.size; omega
  clear hg2 hc1 hy HO1 HB1
  go_wp2_with (at_builtin; refine wpList_append_str_at rfl _ _ rfl base _ y rfl hown2 T t rfl HX.out ?c1 hzz2 ?_)
  case c1 => omega
  intro v3 w3 hown3 hg3
  try rw [← List.length_append] at hown3
  have hl3 : (y ++ t).length ≤ 1099400000000 := by rw [List.length_append]; omega
  obtain ⟨z, hz⟩ : ∃ z, y ++ t = z := ⟨_, rfl⟩
  rw [hz] at hown3 hl3
  have HZZ := Lib.hid hz
  have HG3 := Lib.hid (HG2.out.trans hg3)
  obtain ⟨A3, c3, rfl⟩ := ownsRow_form hown3
  have hzz3 : base ≤ w3.heap.size := by have := HG3.out.size; omega
  clear hg3 hown2 hz HG2 hc2
  try rw [show y.length + t.length = z.length from by rw [← HZZ.out, List.length_append]]
  go_wp2_with (at_builtin; refine wpList_append_str_at rfl _ _ rfl base _ z rfl hown3 ⟨#[13, 10]⟩ [13, 10] rfl rfl ?e1 hzz3 ?_)
  case e1 => simp only [List.length_cons, List.length_nil]; omega
  intro v4 w4 hown4 hg4
  try rw [← List.length_append] at hown4
  have HG4 := Lib.hid (HG3.out.trans hg4)
  have HO4 := Lib.hid hown4
  obtain ⟨A4, c4, rfl⟩ := ownsRow_form hown4
  clear hg4 hown3 hown4 HG3
  go_wp2
  go_ret
  refine ⟨_, rfl, ?_, HG4.out⟩
  rw [show l ++ bulkW t = z ++ [13, 10] from by rw [bulkW_eq, ← HZZ.out, ← HYY.out, ← HI.out, HT.out]; simp]
  simp only [List.length_append] at HO4 ⊢
  exact HO4.out

/-- So many rows of bytes, one behind the other. -/
def catN (ys : Nat → List UInt8) : Nat → List UInt8
  | 0 => []
  | k + 1 => catN ys k ++ ys k

theorem catN_le (ys : Nat → List UInt8) {k n : Nat} (h : k ≤ n) : (catN ys k).length ≤ (catN ys n).length := by
  induction n with
  | zero => obtain rfl : k = 0 := by omega
            exact Nat.le_refl _
  | succ n ih =>
    rcases Nat.lt_or_ge k (n + 1) with q | q
    · rw [catN, List.length_append]; have := ih (by omega); omega
    · obtain rfl : k = n + 1 := by omega
      exact Nat.le_refl _

set_option maxRecDepth 100000 in
set_option maxHeartbeats 8000000 in
theorem pput_array (base : Nat) (k : Int) (hk : ¬ (k = 1 ∨ k = 2 ∨ k = 3 ∨ k = 4 ∨ k = 5 ∨ k = 7)) (T : ByteArray) (num : Int) (LA : Option Addr) (b o n cap : Nat) (p : Parts) (ys : Nat → List UInt8) (w : World) (hb : base ≤ w.heap.size) (hLA : 0 < n → LA = some ⟨b, o, none⟩ ∧ b < base) (hc : p.At w b o n) (hbig : n ≤ 140737488351232) (hp : Pows w) (hB : 1 < base)
    (hM : ∀ i, i < n → ∀ w', Below base w w' → PutsR base (p.val i) (ys i) w') : PutsR base (.agg #[.int .i64 k, .string T, .int .i64 num, .slice LA n cap]) (42 :: (Lib.itoa (n : Int) ++ 13 :: 10 :: catN ys n)) w := by
  intro v l hown hl
  obtain ⟨A, c, rfl⟩ := ownsRow_form hown
  have HOW := Lib.hid hown
  have HC := Lib.hid hc
  have HLA := Lib.hid hLA
  have HMM := Lib.hid hM
  have k1 : (k == 1) = false := by rw [beq_eq_false_iff_ne]; omega
  have k2 : (k == 2) = false := by rw [beq_eq_false_iff_ne]; omega
  have k3 : (k == 3) = false := by rw [beq_eq_false_iff_ne]; omega
  have k4 : (k == 4) = false := by rw [beq_eq_false_iff_ne]; omega
  have k5 : (k == 5) = false := by rw [beq_eq_false_iff_ne]; omega
  have k7 : (k == 7) = false := by rw [beq_eq_false_iff_ne]; omega
  have HTX := Lib.hid (fun w2 (hb2 : Below w.heap.size w w2) => text_any n w2 (by omega) (by omega) (hp.on hb2 (by omega)))
  have hne : (Value.slice A l.length c).ownBlock ≠ some w.heap.size := fun e => by have := (own_lt hown e).2; omega
  have HVL := Lib.hid (fun k (hk : (Value.slice A l.length c).ownBlock = some k) => own_lt hown hk)
  obtain ⟨I, hI⟩ : ∃ I, Lib.itoa (n : Int) = I := ⟨_, rfl⟩
  rw [hI] at hl HTX ⊢
  obtain ⟨W, hW⟩ : ∃ W : Nat → List UInt8, ∀ k, l ++ (42 :: I) ++ [13, 10] ++ catN ys k = W k := ⟨fun k => l ++ (42 :: I) ++ [13, 10] ++ catN ys k, fun _ => rfl⟩
  have HW := Lib.hid hW
  have hend : l ++ 42 :: (I ++ 13 :: 10 :: catN ys n) = W n := by rw [← hW n]; simp
  rw [hend]
  have hlW : ∀ k, k ≤ n → (W k).length ≤ 1099400000000 := fun k hk => by
    have h1 := congrArg List.length (hW k)
    have h2 := catN_le ys hk
    simp only [List.length_append, List.length_cons, List.length_nil] at h1 hl
    omega
  have HLW := Lib.hid hlW
  have hlI : l.length + I.length ≤ 1099400000000 := by simp only [List.length_append, List.length_cons] at hl; omega
  clear hown hc hLA hM hp hW hI hend hlW hl
  go_enter Tryd.func15, Tryd.ntmps15
  go_wp2_with fail
  refine (HTX.out _ ((Below.refl w.heap.size w).alloc (Nat.le_refl _) _)).mono ?_
  rintro e w1 ⟨rfl, hb1⟩
  have hbw1 : Below w.heap.size w w1 := ((Below.refl w.heap.size w).alloc (Nat.le_refl _) _).trans (hb1.mono (by simp))
  have hc1 : w1.cell? ⟨w.heap.size, 3, none⟩ = some (.slice LA n cap) := ((hb1.cell (p := ⟨w.heap.size, 3, none⟩) (by simp)).trans (cell_in (World.alloc_heap_new w (.cells #[.int .i64 k, .string T, .int .i64 num, .slice LA n cap] 25)))).trans rfl
  have hz1 : w.heap.size < w1.heap.size := by have := hb1.size; rw [World.size_alloc] at this; omega
  have HB1 := Lib.hid hbw1
  have HO1 := Lib.hid (ownsRow_below HOW.out hbw1)
  clear hb1 hbw1 HTX
  go_wp2_with fail
  refine (ywithLine_any base _ l 42 42 ⟨I.toArray⟩ I w1 rfl HO1.out rfl (by omega) (by omega)).mono ?_
  rintro e w2 ⟨v2, rfl, hown2, hg2⟩
  have hc2 := (hg2.cell (p := ⟨w.heap.size, 3, none⟩) hz1 hne).trans hc1
  rw [show l ++ (42 :: I) ++ [13, 10] = W 0 from by rw [← HW.out 0]; simp [catN]] at hown2
  have HG2 := Lib.hid (Grew.after HB1.out hg2)
  have HO2 := Lib.hid hown2
  obtain ⟨A2, c2, rfl⟩ := ownsRow_form hown2
  clear hg2 hc1 hown2 HO1 HB1 k1 k2 k3 k4 k5 k7
  go_wp2
  clear hc2
  go_loopw [0, 6, 59] (fun vr _ i wr => ∃ k : Nat, i = .int .i64 k ∧ k ≤ n ∧ wr.ownsRow base 5 1 vr (W k).length (Lib.byteCells (W k)) ∧ Grew w wr (.slice A l.length c) vr) (fun _ _ i _ => n - (intOf i).toNat)
  case atStart => exact ⟨0, rfl, by omega, HO2.out, HG2.out⟩
  case round =>
    obtain ⟨q, rfl, hq, hown, hgr⟩ := hrel
    have HGR := Lib.hid hgr
    have HOR := Lib.hid hown
    obtain ⟨Ar, cr, rfl⟩ := ownsRow_form hown
    have hzr := hgr.size
    clear hown hgr HO2 HG2
    by_cases hlt : q < n
    · obtain ⟨rfl, hbb⟩ := HLA.out (by omega)
      have hbr : Below base w wr := HGR.out.low hb (fun k hk => (HVL.out k hk).1)
      obtain ⟨c0, c1, c2, c3⟩ := (HC.out.below hbr hbb) q hlt
      have HST : Hid (W (q + 1) = W q ++ ys q) := by unfold Hid; rw [← HW.out, ← HW.out, catN]; simp
      have hlq : (W q).length + (ys q).length ≤ 1099400000000 := by
        have h1 := HLW.out (q + 1) (by omega)
        rw [HST.out, List.length_append] at h1
        exact h1
      have HQ := Lib.hid (fun w' (hb' : Below wr.heap.size wr w') => HMM.out q hlt w' (hbr.trans (hb'.mono (by omega))))
      unfold Parts.val at HQ
      generalize p.k q = k0 at c0 HQ
      generalize p.t q = t0 at c1 HQ
      generalize p.n q = n0 at c2 HQ
      generalize p.a q = a0 at c3 HQ
      generalize p.m q = m0 at c3 HQ
      generalize p.c q = cc0 at c3 HQ
      clear hbr
      go_wp2_with fail
      refine Calls.mono (HQ.out _ ((Below.refl wr.heap.size wr).alloc (Nat.le_refl _) _) _ (W q) (HOR.out.alloc _) hlq) ?_
      rintro e w3 ⟨v3, rfl, hown3, hg3⟩
      rw [← HST.out] at hown3
      have HG3 := Lib.hid (HGR.out.trans (Grew.after ((Below.refl wr.heap.size wr).alloc (Nat.le_refl _) _) hg3))
      have HO3 := Lib.hid hown3
      obtain ⟨A3, c3, rfl⟩ := ownsRow_form hown3
      clear hown3 hg3
      go_wp2
      go_roundw
      case rel => exact ⟨q + 1, by go_num, by omega, HO3.out, HG3.out⟩
      case measure => simp only [intOf]; omega
    · obtain rfl : q = n := by omega
      go_wp2
      go_ret
      exact ⟨_, rfl, HOR.out, HGR.out⟩

theorem catN_congr {ys zs : Nat → List UInt8} : ∀ {n : Nat}, (∀ j, j < n → ys j = zs j) → catN ys n = catN zs n
  | 0, _ => rfl
  | n + 1, h => by rw [catN, catN, catN_congr (fun j hj => h j (by omega)), h n (by omega)]

theorem catN_front (ys : Nat → List UInt8) : ∀ n, catN ys (n + 1) = ys 0 ++ catN (fun j => ys (j + 1)) n
  | 0 => by simp [catN]
  | n + 1 => by rw [catN, catN_front ys n, catN, List.append_assoc]

theorem writeIs_get : ∀ (l : List RI) (ys : Nat → List UInt8), (∀ j x, l[j]? = some x → ys j = writeI x) → catN ys l.length = writeI.writeIs l
  | [], ys, _ => rfl
  | x :: l, ys, h => by
    have ih := writeIs_get l (fun j => ys (j + 1)) (fun j y hy => h (j + 1) y (by simpa using hy))
    rw [List.length_cons, catN_front, ih, h 0 x rfl, writeI.writeIs]

/-- WITHREPLY, at any tree that lies below the row. -/
theorem pput_I (w0 : World) (hp : Pows w0) (hB : 1 < w0.heap.size) : ∀ (N : Nat) (x : RI), bulkI x ≤ N → N ≤ 1048576 → ∀ (cs : List Value), RepI w0 x cs → ∀ w, Below w0.heap.size w0 w → PutsR w0.heap.size (.agg cs.toArray) (writeI x) w := by
  intro N
  induction N with
  | zero => intro x hx; have := bulkI_pos x; omega
  | succ N ih =>
    intro x hx hN cs h w hb
    obtain ⟨k, t, n, l⟩ := x
    obtain ⟨T, A, g, o, c, p, rfl, hT, hl, hm, hn, hA, hAt, hc⟩ := h.row
    rw [bulkI] at hx
    have hps := hp.on hb hB
    rw [writeI]
    by_cases h1 : k = 1
    · rw [if_pos h1]; exact pput_line _ k 43 (Or.inl ⟨h1, rfl⟩) T t n A _ c w hb.size hT
    · rw [if_neg h1]
      by_cases h2 : k = 2
      · rw [if_pos h2]; exact pput_line _ k 45 (Or.inr ⟨h2, rfl⟩) T t n A _ c w hb.size hT
      · rw [if_neg h2]
        by_cases h3 : k = 3
        · subst h3; rw [if_pos rfl]; exact pput_int _ T n A _ c w hb.size hn.1 hn.2 hps hB
        · rw [if_neg h3]
          by_cases h4 : k = 4
          · subst h4; rw [if_pos rfl]; exact pput_bulk _ T t n A _ c w hb.size hT hps hB
          · rw [if_neg h4]
            by_cases h5 : k = 5
            · rw [if_pos h5]; exact pput_nils _ k 36 (Or.inl ⟨h5, rfl⟩) T n A _ c w hb.size
            · rw [if_neg h5]
              by_cases h7 : k = 7
              · rw [if_pos h7]; exact pput_nils _ k 42 (Or.inr ⟨h7, rfl⟩) T n A _ c w hb.size
              · rw [if_neg h7]
                have hx : ∀ j, j < l.length → ∃ x, l[j]? = some x := fun j hj => ⟨_, List.getElem?_eq_getElem hj⟩
                have hq := pput_array w0.heap.size k (by omega) T n A g o l.length c p (fun j => match l[j]? with | some x => writeI x | none => []) w hb.size hA (fun i hi => (hAt.below hb (hA (by omega)).2) i hi) (by have := bulkIs_len l; omega) hps hB (fun j hj w2 hb2 => by
                  obtain ⟨x, hx⟩ := hx j hj
                  have h2 := ih x (by have := bulkIs_mem (List.mem_of_getElem? hx); omega) (by omega) _ (hc j x hx) w2 (hb.trans hb2)
                  unfold Parts.val
                  simp only [hx]
                  exact h2)
                rw [writeIs_get l _ (fun j x hx => by simp only [hx])] at hq
                exact hq

/-- What Check tells. -/
def checkI (x : RI) : Int := if nestsI x 8 then 32 else if mayI x then 0 else 30

set_option maxRecDepth 100000 in
set_option maxHeartbeats 2000000 in
theorem pcheck_of (k : Int) (T : ByteArray) (n : Int) (A : Option Addr) (m c : Nat) (r1 r2 : Bool) (w : World) (HN : ∀ w', Below w.heap.size w w' → NestsTells (.agg #[.int .i64 k, .string T, .int .i64 n, .slice A m c]) 8 r1 w') (HM : ∀ w', Below w.heap.size w w' → MayBeTells (.agg #[.int .i64 k, .string T, .int .i64 n, .slice A m c]) r2 w') :
    Calls Tryd.prog 8 #[.agg #[.int .i64 k, .string T, .int .i64 n, .slice A m c]] w fun e w' => e = .returned (.int .i64 (if r1 then 32 else if r2 then 0 else 30)) ∧ Below w.heap.size w w' := by
  have HHN := Lib.hid HN
  have HHM := Lib.hid HM
  clear HN HM
  obtain ⟨wb, hwb⟩ : ∃ wb, w.alloc (.cells #[.int .i64 k, .string T, .int .i64 n, .slice A m c] 25) = wb := ⟨_, rfl⟩
  have hnew : wb.heap[w.heap.size]? = some (.cells #[.int .i64 k, .string T, .int .i64 n, .slice A m c] 25) := by rw [← hwb]; exact World.alloc_heap_new w _
  have hbw : Below w.heap.size w wb := by rw [← hwb]; exact (Below.refl _ _).alloc (Nat.le_refl _) _
  have hlt : w.heap.size < wb.heap.size := by rw [← hwb]; simp
  have HW := Lib.hid hwb
  have HNEW := Lib.hid hnew
  have HBW := Lib.hid hbw
  clear hwb hnew hbw
  go_enter Tryd.func8, Tryd.ntmps8
  go_wp2_with fail
  rw [HW.out]
  refine Calls.mono (HHN.out wb HBW.out) ?_
  rintro e w2 ⟨rfl, hb2⟩
  have HB2 := Lib.hid (HBW.out.trans (hb2.mono (by omega)))
  have r0' : w2.cell? ⟨w.heap.size, 0, none⟩ = some (.int .i64 k) := (hb2.cell (p := ⟨w.heap.size, 0, none⟩) hlt).trans (cell_in HNEW.out)
  have r1' : w2.cell? ⟨w.heap.size, 1, none⟩ = some (.string T) := (hb2.cell (p := ⟨w.heap.size, 1, none⟩) hlt).trans (cell_in HNEW.out)
  have r2' : w2.cell? ⟨w.heap.size, 2, none⟩ = some (.int .i64 n) := (hb2.cell (p := ⟨w.heap.size, 2, none⟩) hlt).trans (cell_in HNEW.out)
  have r3' : w2.cell? ⟨w.heap.size, 3, none⟩ = some (.slice A m c) := (hb2.cell (p := ⟨w.heap.size, 3, none⟩) hlt).trans (cell_in HNEW.out)
  have hz2 := hb2.size
  clear hb2
  cases r1 with
  | true =>
    go_wp2
    go_ret
    exact ⟨rfl, HB2.out⟩
  | false =>
    go_wp2_with fail
    refine Calls.mono (HHM.out w2 HB2.out) ?_
    rintro e w3 ⟨rfl, hb3⟩
    have HB3 := Lib.hid (HB2.out.trans (hb3.mono (by omega)))
    clear hb3 r0' r1' r2' r3'
    cases r2
    all_goals
      go_wp2
      go_ret
      exact ⟨rfl, HB3.out⟩

theorem pcheck_I (x : RI) (hbk : bulkI x ≤ 1048576) (w0 : World) (cs : List Value) (h : RepI w0 x cs) (w : World) (hb : Below w0.heap.size w0 w) :
    Calls Tryd.prog 8 #[.agg cs.toArray] w fun e w' => e = .returned (.int .i64 (checkI x)) ∧ Below w.heap.size w w' := by
  have h1 := fun w' (hb' : Below w.heap.size w w') => pnests_I _ x hbk (Nat.le_refl _) 8 (by omega) w0 cs h w' (hb.trans (hb'.mono hb.size))
  have h2 := fun w' (hb' : Below w.heap.size w w') => pmayBe_I _ x hbk (Nat.le_refl _) w0 cs h w' (hb.trans (hb'.mono hb.size))
  obtain ⟨k, T, n, A, m, c, rfl⟩ := h.parts
  exact pcheck_of k T n A m c (nestsI x 8) (mayI x) w h1 h2

theorem digits_le {n : Int} (h0 : -9223372036854775808 ≤ n) (h1 : n ≤ 9223372036854775807) : (Lib.itoa n).length ≤ 21 := by
  unfold Lib.itoa
  split
  · rw [List.length_cons, Lib.decDigits_length]
    have := Lib.nDigits_le20 n.natAbs (by omega)
    omega
  · rw [Lib.decDigits_length]
    have := Lib.nDigits_le20 n.toNat (by omega)
    omega

mutual
theorem writeI_le {w : World} : ∀ {x : RI} {cs : List Value}, RepI w x cs → bulkI x ≤ 1048576 → (writeI x).length ≤ 6 * bulkI x
  | .node k t n l, cs, h, hb => by
    obtain ⟨T, A, g, o, c, p, rfl, hT, hl, hm, hn, hA, hAt, hc⟩ := h.row
    have h1 := digits_le hn.1 hn.2
    have h2 := itoa_le t.length (by rw [bulkI] at hb; omega)
    have h3 := itoa_le l.length (by rw [bulkI] at hb; have := bulkIs_len l; omega)
    rw [bulkI] at hb ⊢
    have h4 := writeIs_le (w := w) (l := l) (fun j x hx => ⟨_, hc j x hx⟩) (by omega)
    rw [writeI]
    split
    · simp only [List.length_cons, List.length_append, List.length_nil]; omega
    · split
      · simp only [List.length_cons, List.length_append, List.length_nil]; omega
      · split
        · simp only [List.length_cons, List.length_append, List.length_nil]; omega
        · split
          · simp only [bulkW, List.length_cons, List.length_append, List.length_nil]; omega
          · split
            · simp only [List.length_cons, List.length_nil]; omega
            · split
              · simp only [List.length_cons, List.length_nil]; omega
              · simp only [List.length_cons, List.length_append]; omega
theorem writeIs_le {w : World} : ∀ {l : List RI}, (∀ (j : Nat) (x : RI), l[j]? = some x → ∃ cs, RepI w x cs) → bulkI.bulkIs l ≤ 1048576 → (writeI.writeIs l).length ≤ 6 * bulkI.bulkIs l
  | [], _, _ => by rw [writeI.writeIs]; exact Nat.zero_le _
  | x :: l, h, hb => by
    rw [bulkI.bulkIs] at hb ⊢
    obtain ⟨cs, hx⟩ := h 0 x rfl
    have h1 := writeI_le hx (by omega)
    have h2 := writeIs_le (l := l) (fun j y hy => h (j + 1) y (by simpa using hy)) (by omega)
    rw [writeI.writeIs, List.length_append]
    omega
end

set_option maxRecDepth 100000 in
set_option maxHeartbeats 2000000 in
theorem pencode_of (k : Int) (T : ByteArray) (n : Int) (A : Option Addr) (m c : Nat) (E : Int) (Y : List UInt8) (w : World) (hY : Y.length ≤ 1099400000000)
    (HC : ∀ w', Below w.heap.size w w' → Calls Tryd.prog 8 #[.agg #[.int .i64 k, .string T, .int .i64 n, .slice A m c]] w' fun e w2 => e = .returned (.int .i64 E) ∧ Below w'.heap.size w' w2)
    (HP : ∀ w', Below w.heap.size w w' → PutsR w.heap.size (.agg #[.int .i64 k, .string T, .int .i64 n, .slice A m c]) Y w') :
    Calls Tryd.prog 6 #[.agg #[.int .i64 k, .string T, .int .i64 n, .slice A m c]] w fun e w' => Below w.heap.size w w' ∧
      (E ≠ 0 ∧ e = .returned (.tuple #[.slice none 0 0, .int .i64 E]) ∨ E = 0 ∧ ∃ v, e = .returned (.tuple #[v, .int .i64 0]) ∧ w'.ownsRow w.heap.size 5 1 v Y.length (Lib.byteCells Y)) := by
  obtain ⟨wb, hwb⟩ : ∃ wb, w.alloc (.cells #[.int .i64 k, .string T, .int .i64 n, .slice A m c] 25) = wb := ⟨_, rfl⟩
  have hnew : wb.heap[w.heap.size]? = some (.cells #[.int .i64 k, .string T, .int .i64 n, .slice A m c] 25) := by rw [← hwb]; exact World.alloc_heap_new w _
  have hbw : Below w.heap.size w wb := by rw [← hwb]; exact (Below.refl _ _).alloc (Nat.le_refl _) _
  have hlt : w.heap.size < wb.heap.size := by rw [← hwb]; simp
  have HW := Lib.hid hwb
  have HNEW := Lib.hid hnew
  have HBW := Lib.hid hbw
  have HHC := Lib.hid HC
  have HHP := Lib.hid HP
  clear hwb hnew hbw HC HP
  go_enter Tryd.func6, Tryd.ntmps6
  go_wp2_with fail
  rw [HW.out]
  refine Calls.mono (HHC.out wb HBW.out) ?_
  rintro e w2 ⟨rfl, hb2⟩
  have HB2 := Lib.hid (HBW.out.trans (hb2.mono (by omega)))
  have r0 : w2.cell? ⟨w.heap.size, 0, none⟩ = some (.int .i64 k) := (hb2.cell (p := ⟨w.heap.size, 0, none⟩) hlt).trans (cell_in HNEW.out)
  have r1 : w2.cell? ⟨w.heap.size, 1, none⟩ = some (.string T) := (hb2.cell (p := ⟨w.heap.size, 1, none⟩) hlt).trans (cell_in HNEW.out)
  have r2 : w2.cell? ⟨w.heap.size, 2, none⟩ = some (.int .i64 n) := (hb2.cell (p := ⟨w.heap.size, 2, none⟩) hlt).trans (cell_in HNEW.out)
  have r3 : w2.cell? ⟨w.heap.size, 3, none⟩ = some (.slice A m c) := (hb2.cell (p := ⟨w.heap.size, 3, none⟩) hlt).trans (cell_in HNEW.out)
  have hz2 := hb2.size
  clear hb2
  by_cases hE : E = 0
  · subst hE
    have HR := Lib.hid (HHP.out w2 HB2.out (.slice none 0 0) [] ⟨rfl, .inl ⟨rfl, rfl⟩⟩ (by simpa using hY))
    rw [List.nil_append] at HR
    go_wp2_with fail
    refine HR.out.mono ?_
    rintro e w3 ⟨v3, rfl, hown3, hg3⟩
    have HB3 := Lib.hid (HB2.out.trans (hg3.low (n := w.heap.size) (by omega) (fun q hq => by cases hq)))
    have HO3 := Lib.hid hown3
    obtain ⟨A3, c3, rfl⟩ := ownsRow_form hown3
    clear hg3 hown3 r0 r1 r2 r3
    go_wp2
    go_ret2
    exact ⟨HB3.out, _, rfl, HO3.out⟩
  · have hE' : (E != 0) = true := by simp [hE]
    go_wp2
    go_ret2
    exact ⟨HB2.out, Or.inl ⟨hE, rfl⟩⟩

/-- ENCODE, at any tree. -/
theorem pencode_I (x : RI) (hbk : bulkI x ≤ 1048576) (w : World) (cs : List Value) (h : RepI w x cs) (hp : Pows w) (hB : 1 < w.heap.size) :
    Calls Tryd.prog 6 #[.agg cs.toArray] w fun e w' => Below w.heap.size w w' ∧
      (checkI x ≠ 0 ∧ e = .returned (.tuple #[.slice none 0 0, .int .i64 (checkI x)]) ∨ checkI x = 0 ∧ ∃ v, e = .returned (.tuple #[v, .int .i64 0]) ∧ w'.ownsRow w.heap.size 5 1 v (writeI x).length (Lib.byteCells (writeI x))) := by
  have h1 := fun w' (hb : Below w.heap.size w w') => pcheck_I x hbk w cs h w' hb
  have h2 := fun w' (hb : Below w.heap.size w w') => pput_I w hp hB _ x hbk (Nat.le_refl _) cs h w' hb
  have h3 := writeI_le h hbk
  obtain ⟨k, T, n, A, m, c, rfl⟩ := h.parts
  exact pencode_of k T n A m c (checkI x) (writeI x) w (by omega) h1 h2

end Go.Proofs.YtbldahkgilkclaaDoor
