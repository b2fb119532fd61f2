/-
  Package command's iterator over all commands: tell, the groups' tables, from: handed any yield, it tells the table's commands in order, and stops where a round says so. Conditions: as typed.
-/
import Derived.Test.YtinpimejiepahaaCmF
import Derived.Great.Walk
import Derived.RangeFuncNested
import Derived.RangeFuncBound
import Derived.RangeFuncCalls
import Derived.RangeFuncLeaves
import Derived.Shelf.Abstract
import Derived.Shelf.RegionOpen
import Derived.OwnWalkIn
import Derived.TacticsInMore
import Derived.LoopNIn
import Derived.LoopIn
namespace Go.Proofs.Ytinpimejiepahaa
open Go.RowKit Go.Shelf

attribute [local go_sem] Oper.semAt_some

/-- In the wide fence a round is let in from however deep. -/
theorem yield_deep {m m' : Nat} {P : Program} {l : Nat} {args : Array Value} {W : World} {R : Ending → World → Prop} (h : YieldAt Fence.wide m P l args W R) : YieldAt Fence.wide m' P l args W R := by
  obtain ⟨fn, tmps, assign, body, hy, h1, h2⟩ := h
  exact ⟨fn, tmps, assign, body, hy, h1, fun c cs _ => h2 c cs (fun d hd => by cases hd)⟩

section
variable {n : Nat} {P : Program} {ops : Array Oper} {Q : Exit → Act → World → Prop} {a : Act} {w : World} {rest : List Oper} {o : Oper}

/-- An operation that yields a value, in the wide fence. -/
theorem runIn (hg : o.guard = none) (dst : Option Tmp) (hdst : o.dst = dst) (v : Value) (w' : World) (ha : o.about P w a.eval = none) (hrun : (o.semAt Fence.wide.round a.eval).run P w = .ok (.value v) w')
    (h : wpListIn Fence.wide n P ops Q rest (a.put dst v) w') : wpListIn Fence.wide n P ops Q (o :: rest) a w := by
  subst hdst
  refine wpListIn_plain hg fun K hK => ⟨fun f hf => (by rw [ha] at hf; cases hf), ?_⟩
  rw [hrun]
  exact hK _ _ h
/-- A call, in the wide fence. -/
theorem callIn (hg : o.guard = none) (dst : Option Tmp) (hdst : o.dst = dst) (f : FuncId) (args : Array Value) (R : Ending → World → Prop) (hrun : (o.semAt Fence.wide.round a.eval).run P w = .ok (.enter f args) w)
    (hc : CallsIn Fence.wide (n - 1) P f args w R) (h : ∀ e w', R e w' → ∃ v, e = .returned v ∧ wpListIn Fence.wide n P ops Q rest (a.put dst v) w') : wpListIn Fence.wide n P ops Q (o :: rest) a w := by
  subst hdst
  refine wpListIn_plain hg fun K hK => ⟨fun _ _ => trivial, ?_⟩
  rw [hrun]
  refine ⟨fun hd => (by cases hd), hc.mono ?_⟩
  intro e w' hr
  obtain ⟨v, rfl, h'⟩ := h e w' hr
  exact hK _ _ h'
end

/-- A row's cells. -/
def encR (x : Rw) : List Value := [.string ⟨x.1.toArray⟩, .int .i64 x.2.1, .bool x.2.2.1, .int .i64 x.2.2.2.1, .int .i64 x.2.2.2.2.1, .int .i64 x.2.2.2.2.2]
def rcells (l : List Rw) : List Value := l.flatMap encR
theorem rcells_cons (a : Rw) (b : List Rw) : rcells (a :: b) = encR a ++ rcells b := List.flatMap_cons
theorem rcells_at : ∀ {l : List Rw} {j : Nat} {x : Rw}, l[j]? = some x → ∀ {i : Nat} {v : Value}, (encR x)[i]? = some v → (rcells l)[j * 6 + i]? = some v
  | [], j, x, h, i, v, _ => by simp at h
  | a :: l, 0, x, h, i, v, hv => by
    simp at h
    subst h
    rw [rcells_cons, List.getElem?_append_left (by have := (List.getElem?_eq_some_iff.1 hv).1; omega), Nat.zero_mul, Nat.zero_add]
    exact hv
  | a :: l, j + 1, x, h, i, v, hv => by
    rw [List.getElem?_cons_succ] at h
    have q := rcells_at h hv
    rw [rcells_cons, List.getElem?_append_right (by show 6 ≤ _; omega)]
    rw [← q]
    congr 1
    show (j + 1) * 6 + i - 6 = _
    omega

/-- A row of a group's table in memory. -/
def RowB (W : World) (b : Nat) (R : List Rw) : Prop := W.heap[b]? = some (.cells (rcells R).toArray 71 (0, 0))
theorem RowB.at_ {W : World} {b : Nat} {R : List Rw} (h : RowB W b R) {j : Nat} {x : Rw} (hx : R[j]? = some x) {i : Nat} {v : Value} (hv : (encR x)[i]? = some v) : W.cell? ⟨b, j * 6 + i, none⟩ = some v := by
  have q := rcells_at hx hv
  unfold RowB at h
  simp only [World.cell?, h]
  simpa using q

/-- Rows of tables stay as they are. -/
def KpR (W W' : World) : Prop := ∀ (k : Nat) (cs : Array Value) (fr : Nat × Nat), W.heap[k]? = some (.cells cs 71 fr) → W'.heap[k]? = W.heap[k]?
theorem KpR.t {A B C : World} (h : KpR A B) (k : KpR B C) : KpR A C := fun j cs fr hj => (k j cs fr ((h j cs fr hj).trans hj)).trans (h j cs fr hj)
theorem KpR.below {A B : World} (h : Below A.heap.size A B) : KpR A B := fun j _ _ hj => h.block j (Array.getElem?_eq_some_iff.1 hj).1

section
variable {l N B : Nat} {J Jx : List Sp → World → Prop}
theorem j_below (hJ : AbidesFrom B J) {pre : List Sp} {W X : World} (h : J pre W) (hX : Below W.heap.size W X) : J pre X := hJ _ _ _ none h ⟨hX.os, hX.tape, hX.output, hX.size, fun k _ _ => hX.block k ‹_›⟩ (fun r e => by cases e)

set_option maxRecDepth 100000 in
set_option maxHeartbeats 8000000 in
theorem tell_in (hJ : AbidesFrom B J)
    (hY : ∀ m pre x W, x.1.length ≤ 20 → J pre W → pre.length < N → YieldAt Fence.wide m Try.prog l #[aggS x] W fun e W' => (e = .returned (.bool true) ∧ J (pre ++ [x]) W' ∧ KpR W W') ∨ (e = .returned (.bool false) ∧ Jx (pre ++ [x]) W'))
    (n : Nat) (g : Int) (R : List Rw) (k : Nat) (hk : R.length = k) (hk2 : k ≤ 1000) (hsh : ∀ r ∈ R, r.1.length ≤ 20) (b : Nat) (pre : List Sp) (W : World) (hrow : RowB W b R) (h0 : J pre W) (hN : pre.length + k ≤ N) :
    CallsIn Fence.wide n Try.prog 55 #[.func (.yield l) #[] #[], .int .i64 g, .slice (some ⟨b, 0, none⟩) k k] W fun e W' =>
      (e = .returned (.bool true) ∧ J (pre ++ R.map (toSp g)) W') ∨ (e = .returned (.bool false) ∧ ∃ q, q <+: R.map (toSp g) ∧ Jx (pre ++ q) W') := by
  have HY := Lib.hid hY
  have HJ := Lib.hid hJ
  have HK := Lib.hid hk
  have HRO := Lib.hid hrow
  have HJ0 := Lib.hid h0
  have HSH := Lib.hid hsh
  clear hY hJ hk hrow h0 hsh
  refine callsIn_of_wp Try.func55 rfl trivial ?_ rfl
  simp only [Try.ntmps55, List.size_toArray, List.length_cons, List.length_nil, Nat.reduceAdd, Nat.reduceSub, Array.replicate_succ, Array.replicate_zero, List.push_toArray, List.append_toArray, List.nil_append, List.cons_append]
  gi_wp2
  gi_loopw [11] (fun iv wr => ∃ j : Nat, iv = .int .i64 j ∧ j ≤ k ∧ J (pre ++ (R.take j).map (toSp g)) wr ∧ RowB wr b R) (fun iv _ => k - (intOf iv).toNat)
  case atStart => exact ⟨0, rfl, Nat.zero_le _, by rw [List.take_zero, List.map_nil, List.append_nil]; exact HJ0.out, HRO.out⟩
  case round =>
    obtain ⟨j, rfl, hj, hJr, hrow⟩ := hrel
    by_cases hlt : j < k
    · obtain ⟨⟨nm, ar, wr_, f, la, st⟩, hx⟩ : ∃ x, R[j]? = some x := ⟨_, List.getElem?_eq_getElem (by rw [HK.out]; exact hlt)⟩
      have c0 : wr.cell? ⟨b, j * 6, none⟩ = some (.string ⟨nm.toArray⟩) := hrow.at_ hx (i := 0) rfl
      have c1 : wr.cell? ⟨b, j * 6 + 1, none⟩ = some (.int .i64 ar) := hrow.at_ hx (i := 1) rfl
      have c2 : wr.cell? ⟨b, j * 6 + 2, none⟩ = some (.bool wr_) := hrow.at_ hx (i := 2) rfl
      have c3 : wr.cell? ⟨b, j * 6 + 3, none⟩ = some (.int .i64 f) := hrow.at_ hx (i := 3) rfl
      have c4 : wr.cell? ⟨b, j * 6 + 4, none⟩ = some (.int .i64 la) := hrow.at_ hx (i := 4) rfl
      have c5 : wr.cell? ⟨b, j * 6 + 5, none⟩ = some (.int .i64 st) := hrow.at_ hx (i := 5) rfl
      have hlt' : (j : Int) < (k : Int) := by omega
      have hj0 : (0 : Int) ≤ (j : Int) := by omega
      have HTK : Hid ((R.take (j + 1)).map (toSp g) = (R.take j).map (toSp g) ++ [(nm, g, ar, wr_, f, la, st)]) := by
        unfold Hid
        rw [List.take_add_one, hx, Option.toList_some, List.map_append]
        rfl
      have hb := Below.refl wr.heap.size wr |>.alloc (Nat.le_refl _) (.cells #[.string ⟨nm.toArray⟩, .int .i64 ar, .bool wr_, .int .i64 f, .int .i64 la, .int .i64 st] 71)
      have hJb := j_below HJ.out hJr hb
      have hrb : RowB _ b R := (hb.block b (Array.getElem?_eq_some_iff.1 hrow).1).trans hrow
      have HRB := Lib.hid hrb
      obtain ⟨fn, tmps, assign, body, hy, hR⟩ := HY.out (n - 1) (pre ++ (R.take j).map (toSp g)) (nm, g, ar, wr_, f, la, st) _ (HSH.out _ (List.mem_of_getElem? hx)) hJb (by rw [List.length_append, List.length_map, List.length_take, HK.out]; omega)
      have hy : (Instr.yield l #[.agg #[.string ⟨nm.toArray⟩, .int .i64 g, .int .i64 ar, .bool wr_, .int .i64 f, .int .i64 la, .int .i64 st]]).run Try.prog (wr.alloc (.cells #[.string ⟨nm.toArray⟩, .int .i64 ar, .bool wr_, .int .i64 f, .int .i64 la, .int .i64 st] 71)) = _ := hy
      have HR := Lib.hid hR
      clear hx hb hJb hrb hR hJr hrow
      gi_wp2
      refine ⟨fun hd => (by cases hd), HR.out.mono ?_⟩
      rintro e W3 (⟨rfl, hJ3, hk3⟩ | ⟨rfl, hJx3⟩)
      · have HJ3 := Lib.hid hJ3
        have HRW : Hid (RowB W3 b R) := (hk3 b _ _ HRB.out).trans HRB.out
        clear hJ3 hk3
        gi_wp2
        go_roundw
        case rel => exact ⟨j + 1, by go_num, hlt, by rw [HTK.out, ← List.append_assoc]; exact HJ3.out, HRW.out⟩
        case measure => simp only [intOf]; omega
      · have HJX := Lib.hid hJx3
        clear hJx3
        gi_wp2
        go_ret
        refine Or.inr ⟨rfl, (R.take (j + 1)).map (toSp g), (List.take_prefix _ _).map _, ?_⟩
        rw [HTK.out, ← List.append_assoc]
        exact HJX.out
    · obtain rfl : j = k := by omega
      have hlt' : ¬ (j : Int) < (j : Int) := by omega
      have HE : Hid (J (pre ++ R.map (toSp g)) wr) := by
        unfold Hid
        rw [List.take_of_length_le (by rw [HK.out]; exact Nat.le_refl _)] at hJr
        exact hJr
      clear hJr hrow
      gi_wp2
      go_ret
      exact Or.inl ⟨rfl, HE.out⟩

set_option maxRecDepth 100000 in
set_option maxHeartbeats 8000000 in
theorem of1_in (hJ : AbidesFrom B J)
    (hY : ∀ m pre x W, x.1.length ≤ 20 → J pre W → pre.length < N → YieldAt Fence.wide m Try.prog l #[aggS x] W fun e W' => (e = .returned (.bool true) ∧ J (pre ++ [x]) W' ∧ KpR W W') ∨ (e = .returned (.bool false) ∧ Jx (pre ++ [x]) W'))
    (n : Nat) (pre : List Sp) (W : World) (h0 : J pre W) (hN : pre.length + 18 ≤ N) :
    CallsIn Fence.wide n Try.prog 44 #[.func (.yield l) #[] #[]] W fun e W' =>
      (e = .returned (.bool true) ∧ J (pre ++ rw1.map (toSp 1)) W') ∨ (e = .returned (.bool false) ∧ ∃ q, q <+: rw1.map (toSp 1) ∧ Jx (pre ++ q) W') := by
  refine callsIn_of_wp Try.func44 rfl trivial ?_ rfl
  simp only [Try.ntmps44, List.size_toArray, List.length_cons, List.length_nil, Nat.reduceAdd, Nat.reduceSub, Array.replicate_succ, Array.replicate_zero, List.push_toArray, List.append_toArray, List.nil_append, List.cons_append]
  refine wpIn_seq (wpIn_region_list (runIn rfl (some 2) rfl (.bool false) W (by kernel_rfl) (by kernel_rfl) (wpListIn_nil ?_)))
  dsimp only [Exit.then]
  refine wpIn_seq (wpIn_region_list ?_)
  refine runIn rfl (some 3) rfl (.func (.yield l) #[] #[]) W (by kernel_rfl) (by kernel_rfl) ?_
  refine runIn rfl (some 4) rfl (.agg #[.string ⟨#[103, 101, 116]⟩, .int .i64 2, .bool false, .int .i64 1, .int .i64 1, .int .i64 1]) W (by kernel_rfl) (by kernel_rfl) ?_
  refine runIn rfl (some 5) rfl (.agg #[.string ⟨#[115, 101, 116]⟩, .int .i64 (-3), .bool true, .int .i64 1, .int .i64 1, .int .i64 1]) W (by kernel_rfl) (by kernel_rfl) ?_
  refine runIn rfl (some 6) rfl (.agg #[.string ⟨#[103, 101, 116, 115, 101, 116]⟩, .int .i64 3, .bool true, .int .i64 1, .int .i64 1, .int .i64 1]) W (by kernel_rfl) (by kernel_rfl) ?_
  refine runIn rfl (some 7) rfl (.agg #[.string ⟨#[103, 101, 116, 100, 101, 108]⟩, .int .i64 2, .bool true, .int .i64 1, .int .i64 1, .int .i64 1]) W (by kernel_rfl) (by kernel_rfl) ?_
  refine runIn rfl (some 8) rfl (.agg #[.string ⟨#[115, 101, 116, 110, 120]⟩, .int .i64 3, .bool true, .int .i64 1, .int .i64 1, .int .i64 1]) W (by kernel_rfl) (by kernel_rfl) ?_
  refine runIn rfl (some 9) rfl (.agg #[.string ⟨#[115, 101, 116, 101, 120]⟩, .int .i64 4, .bool true, .int .i64 1, .int .i64 1, .int .i64 1]) W (by kernel_rfl) (by kernel_rfl) ?_
  refine runIn rfl (some 10) rfl (.agg #[.string ⟨#[112, 115, 101, 116, 101, 120]⟩, .int .i64 4, .bool true, .int .i64 1, .int .i64 1, .int .i64 1]) W (by kernel_rfl) (by kernel_rfl) ?_
  refine runIn rfl (some 11) rfl (.agg #[.string ⟨#[109, 103, 101, 116]⟩, .int .i64 (-2), .bool false, .int .i64 1, .int .i64 (-1), .int .i64 1]) W (by kernel_rfl) (by kernel_rfl) ?_
  refine runIn rfl (some 12) rfl (.agg #[.string ⟨#[109, 115, 101, 116]⟩, .int .i64 (-3), .bool true, .int .i64 1, .int .i64 (-1), .int .i64 2]) W (by kernel_rfl) (by kernel_rfl) ?_
  refine runIn rfl (some 13) rfl (.agg #[.string ⟨#[109, 115, 101, 116, 110, 120]⟩, .int .i64 (-3), .bool true, .int .i64 1, .int .i64 (-1), .int .i64 2]) W (by kernel_rfl) (by kernel_rfl) ?_
  refine runIn rfl (some 14) rfl (.agg #[.string ⟨#[97, 112, 112, 101, 110, 100]⟩, .int .i64 3, .bool true, .int .i64 1, .int .i64 1, .int .i64 1]) W (by kernel_rfl) (by kernel_rfl) ?_
  refine runIn rfl (some 15) rfl (.agg #[.string ⟨#[115, 116, 114, 108, 101, 110]⟩, .int .i64 2, .bool false, .int .i64 1, .int .i64 1, .int .i64 1]) W (by kernel_rfl) (by kernel_rfl) ?_
  refine runIn rfl (some 16) rfl (.agg #[.string ⟨#[103, 101, 116, 114, 97, 110, 103, 101]⟩, .int .i64 4, .bool false, .int .i64 1, .int .i64 1, .int .i64 1]) W (by kernel_rfl) (by kernel_rfl) ?_
  refine runIn rfl (some 17) rfl (.agg #[.string ⟨#[115, 101, 116, 114, 97, 110, 103, 101]⟩, .int .i64 4, .bool true, .int .i64 1, .int .i64 1, .int .i64 1]) W (by kernel_rfl) (by kernel_rfl) ?_
  refine runIn rfl (some 18) rfl (.agg #[.string ⟨#[105, 110, 99, 114]⟩, .int .i64 2, .bool true, .int .i64 1, .int .i64 1, .int .i64 1]) W (by kernel_rfl) (by kernel_rfl) ?_
  refine runIn rfl (some 19) rfl (.agg #[.string ⟨#[100, 101, 99, 114]⟩, .int .i64 2, .bool true, .int .i64 1, .int .i64 1, .int .i64 1]) W (by kernel_rfl) (by kernel_rfl) ?_
  refine runIn rfl (some 20) rfl (.agg #[.string ⟨#[105, 110, 99, 114, 98, 121]⟩, .int .i64 3, .bool true, .int .i64 1, .int .i64 1, .int .i64 1]) W (by kernel_rfl) (by kernel_rfl) ?_
  refine runIn rfl (some 21) rfl (.agg #[.string ⟨#[100, 101, 99, 114, 98, 121]⟩, .int .i64 3, .bool true, .int .i64 1, .int .i64 1, .int .i64 1]) W (by kernel_rfl) (by kernel_rfl) ?_
  refine runIn rfl (some 22) rfl (.slice (some ⟨W.heap.size, 0, none⟩) 18 18) (W.alloc (.cells (rcells rw1).toArray 71)) (by kernel_rfl) (by kernel_rfl) ?_
  refine callIn rfl (some 23) rfl 55 #[.func (.yield l) #[] #[], .int .i64 1, .slice (some ⟨W.heap.size, 0, none⟩) 18 18] _ (by kernel_rfl) (tell_in hJ hY (n - 1) 1 rw1 18 (by decide) (by decide) (by decide) W.heap.size pre _ (heap_alloc_new W _) (j_below hJ h0 ((Below.refl _ _).alloc (Nat.le_refl _) _)) hN) ?_
  rintro e w' (⟨rfl, h1⟩ | ⟨rfl, q, h1, h2⟩)
  · refine ⟨_, rfl, runIn rfl (some 2) rfl (.bool true) w' (by kernel_rfl) (by kernel_rfl) (wpListIn_nil ?_)⟩
    dsimp only [Exit.then]
    refine wpIn_ret (bodyPost_ret (v := .bool true) (by kernel_rfl) rfl (Or.inl ⟨rfl, h1⟩))
  · refine ⟨_, rfl, runIn rfl (some 2) rfl (.bool false) w' (by kernel_rfl) (by kernel_rfl) (wpListIn_nil ?_)⟩
    dsimp only [Exit.then]
    refine wpIn_ret (bodyPost_ret (v := .bool false) (by kernel_rfl) rfl (Or.inr ⟨rfl, q, h1, h2⟩))

set_option maxRecDepth 100000 in
set_option maxHeartbeats 8000000 in
theorem of2_in (hJ : AbidesFrom B J)
    (hY : ∀ m pre x W, x.1.length ≤ 20 → J pre W → pre.length < N → YieldAt Fence.wide m Try.prog l #[aggS x] W fun e W' => (e = .returned (.bool true) ∧ J (pre ++ [x]) W' ∧ KpR W W') ∨ (e = .returned (.bool false) ∧ Jx (pre ++ [x]) W'))
    (n : Nat) (pre : List Sp) (W : World) (h0 : J pre W) (hN : pre.length + 15 ≤ N) :
    CallsIn Fence.wide n Try.prog 45 #[.func (.yield l) #[] #[]] W fun e W' =>
      (e = .returned (.bool true) ∧ J (pre ++ rw2.map (toSp 2)) W') ∨ (e = .returned (.bool false) ∧ ∃ q, q <+: rw2.map (toSp 2) ∧ Jx (pre ++ q) W') := by
  refine callsIn_of_wp Try.func45 rfl trivial ?_ rfl
  simp only [Try.ntmps45, List.size_toArray, List.length_cons, List.length_nil, Nat.reduceAdd, Nat.reduceSub, Array.replicate_succ, Array.replicate_zero, List.push_toArray, List.append_toArray, List.nil_append, List.cons_append]
  refine wpIn_seq (wpIn_region_list (runIn rfl (some 2) rfl (.bool false) W (by kernel_rfl) (by kernel_rfl) (wpListIn_nil ?_)))
  dsimp only [Exit.then]
  refine wpIn_seq (wpIn_region_list ?_)
  refine runIn rfl (some 3) rfl (.func (.yield l) #[] #[]) W (by kernel_rfl) (by kernel_rfl) ?_
  refine runIn rfl (some 4) rfl (.agg #[.string ⟨#[108, 112, 117, 115, 104]⟩, .int .i64 (-3), .bool true, .int .i64 1, .int .i64 1, .int .i64 1]) W (by kernel_rfl) (by kernel_rfl) ?_
  refine runIn rfl (some 5) rfl (.agg #[.string ⟨#[114, 112, 117, 115, 104]⟩, .int .i64 (-3), .bool true, .int .i64 1, .int .i64 1, .int .i64 1]) W (by kernel_rfl) (by kernel_rfl) ?_
  refine runIn rfl (some 6) rfl (.agg #[.string ⟨#[108, 112, 117, 115, 104, 120]⟩, .int .i64 (-3), .bool true, .int .i64 1, .int .i64 1, .int .i64 1]) W (by kernel_rfl) (by kernel_rfl) ?_
  refine runIn rfl (some 7) rfl (.agg #[.string ⟨#[114, 112, 117, 115, 104, 120]⟩, .int .i64 (-3), .bool true, .int .i64 1, .int .i64 1, .int .i64 1]) W (by kernel_rfl) (by kernel_rfl) ?_
  refine runIn rfl (some 8) rfl (.agg #[.string ⟨#[108, 112, 111, 112]⟩, .int .i64 (-2), .bool true, .int .i64 1, .int .i64 1, .int .i64 1]) W (by kernel_rfl) (by kernel_rfl) ?_
  refine runIn rfl (some 9) rfl (.agg #[.string ⟨#[114, 112, 111, 112]⟩, .int .i64 (-2), .bool true, .int .i64 1, .int .i64 1, .int .i64 1]) W (by kernel_rfl) (by kernel_rfl) ?_
  refine runIn rfl (some 10) rfl (.agg #[.string ⟨#[108, 108, 101, 110]⟩, .int .i64 2, .bool false, .int .i64 1, .int .i64 1, .int .i64 1]) W (by kernel_rfl) (by kernel_rfl) ?_
  refine runIn rfl (some 11) rfl (.agg #[.string ⟨#[108, 114, 97, 110, 103, 101]⟩, .int .i64 4, .bool false, .int .i64 1, .int .i64 1, .int .i64 1]) W (by kernel_rfl) (by kernel_rfl) ?_
  refine runIn rfl (some 12) rfl (.agg #[.string ⟨#[108, 105, 110, 100, 101, 120]⟩, .int .i64 3, .bool false, .int .i64 1, .int .i64 1, .int .i64 1]) W (by kernel_rfl) (by kernel_rfl) ?_
  refine runIn rfl (some 13) rfl (.agg #[.string ⟨#[108, 115, 101, 116]⟩, .int .i64 4, .bool true, .int .i64 1, .int .i64 1, .int .i64 1]) W (by kernel_rfl) (by kernel_rfl) ?_
  refine runIn rfl (some 14) rfl (.agg #[.string ⟨#[108, 114, 101, 109]⟩, .int .i64 4, .bool true, .int .i64 1, .int .i64 1, .int .i64 1]) W (by kernel_rfl) (by kernel_rfl) ?_
  refine runIn rfl (some 15) rfl (.agg #[.string ⟨#[108, 116, 114, 105, 109]⟩, .int .i64 4, .bool true, .int .i64 1, .int .i64 1, .int .i64 1]) W (by kernel_rfl) (by kernel_rfl) ?_
  refine runIn rfl (some 16) rfl (.agg #[.string ⟨#[108, 105, 110, 115, 101, 114, 116]⟩, .int .i64 5, .bool true, .int .i64 1, .int .i64 1, .int .i64 1]) W (by kernel_rfl) (by kernel_rfl) ?_
  refine runIn rfl (some 17) rfl (.agg #[.string ⟨#[114, 112, 111, 112, 108, 112, 117, 115, 104]⟩, .int .i64 3, .bool true, .int .i64 1, .int .i64 2, .int .i64 1]) W (by kernel_rfl) (by kernel_rfl) ?_
  refine runIn rfl (some 18) rfl (.agg #[.string ⟨#[108, 109, 111, 118, 101]⟩, .int .i64 5, .bool true, .int .i64 1, .int .i64 2, .int .i64 1]) W (by kernel_rfl) (by kernel_rfl) ?_
  refine runIn rfl (some 19) rfl (.slice (some ⟨W.heap.size, 0, none⟩) 15 15) (W.alloc (.cells (rcells rw2).toArray 71)) (by kernel_rfl) (by kernel_rfl) ?_
  refine callIn rfl (some 20) rfl 55 #[.func (.yield l) #[] #[], .int .i64 2, .slice (some ⟨W.heap.size, 0, none⟩) 15 15] _ (by kernel_rfl) (tell_in hJ hY (n - 1) 2 rw2 15 (by decide) (by decide) (by decide) W.heap.size pre _ (heap_alloc_new W _) (j_below hJ h0 ((Below.refl _ _).alloc (Nat.le_refl _) _)) hN) ?_
  rintro e w' (⟨rfl, h1⟩ | ⟨rfl, q, h1, h2⟩)
  · refine ⟨_, rfl, runIn rfl (some 2) rfl (.bool true) w' (by kernel_rfl) (by kernel_rfl) (wpListIn_nil ?_)⟩
    dsimp only [Exit.then]
    refine wpIn_ret (bodyPost_ret (v := .bool true) (by kernel_rfl) rfl (Or.inl ⟨rfl, h1⟩))
  · refine ⟨_, rfl, runIn rfl (some 2) rfl (.bool false) w' (by kernel_rfl) (by kernel_rfl) (wpListIn_nil ?_)⟩
    dsimp only [Exit.then]
    refine wpIn_ret (bodyPost_ret (v := .bool false) (by kernel_rfl) rfl (Or.inr ⟨rfl, q, h1, h2⟩))

set_option maxRecDepth 100000 in
set_option maxHeartbeats 8000000 in
theorem of3_in (hJ : AbidesFrom B J)
    (hY : ∀ m pre x W, x.1.length ≤ 20 → J pre W → pre.length < N → YieldAt Fence.wide m Try.prog l #[aggS x] W fun e W' => (e = .returned (.bool true) ∧ J (pre ++ [x]) W' ∧ KpR W W') ∨ (e = .returned (.bool false) ∧ Jx (pre ++ [x]) W'))
    (n : Nat) (pre : List Sp) (W : World) (h0 : J pre W) (hN : pre.length + 15 ≤ N) :
    CallsIn Fence.wide n Try.prog 46 #[.func (.yield l) #[] #[]] W fun e W' =>
      (e = .returned (.bool true) ∧ J (pre ++ rw3.map (toSp 3)) W') ∨ (e = .returned (.bool false) ∧ ∃ q, q <+: rw3.map (toSp 3) ∧ Jx (pre ++ q) W') := by
  refine callsIn_of_wp Try.func46 rfl trivial ?_ rfl
  simp only [Try.ntmps46, List.size_toArray, List.length_cons, List.length_nil, Nat.reduceAdd, Nat.reduceSub, Array.replicate_succ, Array.replicate_zero, List.push_toArray, List.append_toArray, List.nil_append, List.cons_append]
  refine wpIn_seq (wpIn_region_list (runIn rfl (some 2) rfl (.bool false) W (by kernel_rfl) (by kernel_rfl) (wpListIn_nil ?_)))
  dsimp only [Exit.then]
  refine wpIn_seq (wpIn_region_list ?_)
  refine runIn rfl (some 3) rfl (.func (.yield l) #[] #[]) W (by kernel_rfl) (by kernel_rfl) ?_
  refine runIn rfl (some 4) rfl (.agg #[.string ⟨#[115, 97, 100, 100]⟩, .int .i64 (-3), .bool true, .int .i64 1, .int .i64 1, .int .i64 1]) W (by kernel_rfl) (by kernel_rfl) ?_
  refine runIn rfl (some 5) rfl (.agg #[.string ⟨#[115, 114, 101, 109]⟩, .int .i64 (-3), .bool true, .int .i64 1, .int .i64 1, .int .i64 1]) W (by kernel_rfl) (by kernel_rfl) ?_
  refine runIn rfl (some 6) rfl (.agg #[.string ⟨#[115, 105, 115, 109, 101, 109, 98, 101, 114]⟩, .int .i64 3, .bool false, .int .i64 1, .int .i64 1, .int .i64 1]) W (by kernel_rfl) (by kernel_rfl) ?_
  refine runIn rfl (some 7) rfl (.agg #[.string ⟨#[115, 109, 105, 115, 109, 101, 109, 98, 101, 114]⟩, .int .i64 (-3), .bool false, .int .i64 1, .int .i64 1, .int .i64 1]) W (by kernel_rfl) (by kernel_rfl) ?_
  refine runIn rfl (some 8) rfl (.agg #[.string ⟨#[115, 99, 97, 114, 100]⟩, .int .i64 2, .bool false, .int .i64 1, .int .i64 1, .int .i64 1]) W (by kernel_rfl) (by kernel_rfl) ?_
  refine runIn rfl (some 9) rfl (.agg #[.string ⟨#[115, 109, 101, 109, 98, 101, 114, 115]⟩, .int .i64 2, .bool false, .int .i64 1, .int .i64 1, .int .i64 1]) W (by kernel_rfl) (by kernel_rfl) ?_
  refine runIn rfl (some 10) rfl (.agg #[.string ⟨#[115, 112, 111, 112]⟩, .int .i64 (-2), .bool true, .int .i64 1, .int .i64 1, .int .i64 1]) W (by kernel_rfl) (by kernel_rfl) ?_
  refine runIn rfl (some 11) rfl (.agg #[.string ⟨#[115, 114, 97, 110, 100, 109, 101, 109, 98, 101, 114]⟩, .int .i64 (-2), .bool false, .int .i64 1, .int .i64 1, .int .i64 1]) W (by kernel_rfl) (by kernel_rfl) ?_
  refine runIn rfl (some 12) rfl (.agg #[.string ⟨#[115, 109, 111, 118, 101]⟩, .int .i64 4, .bool true, .int .i64 1, .int .i64 2, .int .i64 1]) W (by kernel_rfl) (by kernel_rfl) ?_
  refine runIn rfl (some 13) rfl (.agg #[.string ⟨#[115, 117, 110, 105, 111, 110]⟩, .int .i64 (-2), .bool false, .int .i64 1, .int .i64 (-1), .int .i64 1]) W (by kernel_rfl) (by kernel_rfl) ?_
  refine runIn rfl (some 14) rfl (.agg #[.string ⟨#[115, 105, 110, 116, 101, 114]⟩, .int .i64 (-2), .bool false, .int .i64 1, .int .i64 (-1), .int .i64 1]) W (by kernel_rfl) (by kernel_rfl) ?_
  refine runIn rfl (some 15) rfl (.agg #[.string ⟨#[115, 100, 105, 102, 102]⟩, .int .i64 (-2), .bool false, .int .i64 1, .int .i64 (-1), .int .i64 1]) W (by kernel_rfl) (by kernel_rfl) ?_
  refine runIn rfl (some 16) rfl (.agg #[.string ⟨#[115, 117, 110, 105, 111, 110, 115, 116, 111, 114, 101]⟩, .int .i64 (-3), .bool true, .int .i64 1, .int .i64 (-1), .int .i64 1]) W (by kernel_rfl) (by kernel_rfl) ?_
  refine runIn rfl (some 17) rfl (.agg #[.string ⟨#[115, 105, 110, 116, 101, 114, 115, 116, 111, 114, 101]⟩, .int .i64 (-3), .bool true, .int .i64 1, .int .i64 (-1), .int .i64 1]) W (by kernel_rfl) (by kernel_rfl) ?_
  refine runIn rfl (some 18) rfl (.agg #[.string ⟨#[115, 100, 105, 102, 102, 115, 116, 111, 114, 101]⟩, .int .i64 (-3), .bool true, .int .i64 1, .int .i64 (-1), .int .i64 1]) W (by kernel_rfl) (by kernel_rfl) ?_
  refine runIn rfl (some 19) rfl (.slice (some ⟨W.heap.size, 0, none⟩) 15 15) (W.alloc (.cells (rcells rw3).toArray 71)) (by kernel_rfl) (by kernel_rfl) ?_
  refine callIn rfl (some 20) rfl 55 #[.func (.yield l) #[] #[], .int .i64 3, .slice (some ⟨W.heap.size, 0, none⟩) 15 15] _ (by kernel_rfl) (tell_in hJ hY (n - 1) 3 rw3 15 (by decide) (by decide) (by decide) W.heap.size pre _ (heap_alloc_new W _) (j_below hJ h0 ((Below.refl _ _).alloc (Nat.le_refl _) _)) hN) ?_
  rintro e w' (⟨rfl, h1⟩ | ⟨rfl, q, h1, h2⟩)
  · refine ⟨_, rfl, runIn rfl (some 2) rfl (.bool true) w' (by kernel_rfl) (by kernel_rfl) (wpListIn_nil ?_)⟩
    dsimp only [Exit.then]
    refine wpIn_ret (bodyPost_ret (v := .bool true) (by kernel_rfl) rfl (Or.inl ⟨rfl, h1⟩))
  · refine ⟨_, rfl, runIn rfl (some 2) rfl (.bool false) w' (by kernel_rfl) (by kernel_rfl) (wpListIn_nil ?_)⟩
    dsimp only [Exit.then]
    refine wpIn_ret (bodyPost_ret (v := .bool false) (by kernel_rfl) rfl (Or.inr ⟨rfl, q, h1, h2⟩))

set_option maxRecDepth 100000 in
set_option maxHeartbeats 8000000 in
theorem of4_in (hJ : AbidesFrom B J)
    (hY : ∀ m pre x W, x.1.length ≤ 20 → J pre W → pre.length < N → YieldAt Fence.wide m Try.prog l #[aggS x] W fun e W' => (e = .returned (.bool true) ∧ J (pre ++ [x]) W' ∧ KpR W W') ∨ (e = .returned (.bool false) ∧ Jx (pre ++ [x]) W'))
    (n : Nat) (pre : List Sp) (W : World) (h0 : J pre W) (hN : pre.length + 15 ≤ N) :
    CallsIn Fence.wide n Try.prog 47 #[.func (.yield l) #[] #[]] W fun e W' =>
      (e = .returned (.bool true) ∧ J (pre ++ rw4.map (toSp 4)) W') ∨ (e = .returned (.bool false) ∧ ∃ q, q <+: rw4.map (toSp 4) ∧ Jx (pre ++ q) W') := by
  refine callsIn_of_wp Try.func47 rfl trivial ?_ rfl
  simp only [Try.ntmps47, List.size_toArray, List.length_cons, List.length_nil, Nat.reduceAdd, Nat.reduceSub, Array.replicate_succ, Array.replicate_zero, List.push_toArray, List.append_toArray, List.nil_append, List.cons_append]
  refine wpIn_seq (wpIn_region_list (runIn rfl (some 2) rfl (.bool false) W (by kernel_rfl) (by kernel_rfl) (wpListIn_nil ?_)))
  dsimp only [Exit.then]
  refine wpIn_seq (wpIn_region_list ?_)
  refine runIn rfl (some 3) rfl (.func (.yield l) #[] #[]) W (by kernel_rfl) (by kernel_rfl) ?_
  refine runIn rfl (some 4) rfl (.agg #[.string ⟨#[122, 97, 100, 100]⟩, .int .i64 (-4), .bool true, .int .i64 1, .int .i64 1, .int .i64 1]) W (by kernel_rfl) (by kernel_rfl) ?_
  refine runIn rfl (some 5) rfl (.agg #[.string ⟨#[122, 114, 101, 109]⟩, .int .i64 (-3), .bool true, .int .i64 1, .int .i64 1, .int .i64 1]) W (by kernel_rfl) (by kernel_rfl) ?_
  refine runIn rfl (some 6) rfl (.agg #[.string ⟨#[122, 115, 99, 111, 114, 101]⟩, .int .i64 3, .bool false, .int .i64 1, .int .i64 1, .int .i64 1]) W (by kernel_rfl) (by kernel_rfl) ?_
  refine runIn rfl (some 7) rfl (.agg #[.string ⟨#[122, 99, 97, 114, 100]⟩, .int .i64 2, .bool false, .int .i64 1, .int .i64 1, .int .i64 1]) W (by kernel_rfl) (by kernel_rfl) ?_
  refine runIn rfl (some 8) rfl (.agg #[.string ⟨#[122, 99, 111, 117, 110, 116]⟩, .int .i64 4, .bool false, .int .i64 1, .int .i64 1, .int .i64 1]) W (by kernel_rfl) (by kernel_rfl) ?_
  refine runIn rfl (some 9) rfl (.agg #[.string ⟨#[122, 114, 97, 110, 103, 101]⟩, .int .i64 (-4), .bool false, .int .i64 1, .int .i64 1, .int .i64 1]) W (by kernel_rfl) (by kernel_rfl) ?_
  refine runIn rfl (some 10) rfl (.agg #[.string ⟨#[122, 114, 101, 118, 114, 97, 110, 103, 101]⟩, .int .i64 (-4), .bool false, .int .i64 1, .int .i64 1, .int .i64 1]) W (by kernel_rfl) (by kernel_rfl) ?_
  refine runIn rfl (some 11) rfl (.agg #[.string ⟨#[122, 114, 97, 110, 103, 101, 98, 121, 115, 99, 111, 114, 101]⟩, .int .i64 (-4), .bool false, .int .i64 1, .int .i64 1, .int .i64 1]) W (by kernel_rfl) (by kernel_rfl) ?_
  refine runIn rfl (some 12) rfl (.agg #[.string ⟨#[122, 114, 97, 110, 107]⟩, .int .i64 3, .bool false, .int .i64 1, .int .i64 1, .int .i64 1]) W (by kernel_rfl) (by kernel_rfl) ?_
  refine runIn rfl (some 13) rfl (.agg #[.string ⟨#[122, 114, 101, 118, 114, 97, 110, 107]⟩, .int .i64 3, .bool false, .int .i64 1, .int .i64 1, .int .i64 1]) W (by kernel_rfl) (by kernel_rfl) ?_
  refine runIn rfl (some 14) rfl (.agg #[.string ⟨#[122, 105, 110, 99, 114, 98, 121]⟩, .int .i64 4, .bool true, .int .i64 1, .int .i64 1, .int .i64 1]) W (by kernel_rfl) (by kernel_rfl) ?_
  refine runIn rfl (some 15) rfl (.agg #[.string ⟨#[122, 112, 111, 112, 109, 105, 110]⟩, .int .i64 (-2), .bool true, .int .i64 1, .int .i64 1, .int .i64 1]) W (by kernel_rfl) (by kernel_rfl) ?_
  refine runIn rfl (some 16) rfl (.agg #[.string ⟨#[122, 112, 111, 112, 109, 97, 120]⟩, .int .i64 (-2), .bool true, .int .i64 1, .int .i64 1, .int .i64 1]) W (by kernel_rfl) (by kernel_rfl) ?_
  refine runIn rfl (some 17) rfl (.agg #[.string ⟨#[122, 114, 101, 109, 114, 97, 110, 103, 101, 98, 121, 114, 97, 110, 107]⟩, .int .i64 4, .bool true, .int .i64 1, .int .i64 1, .int .i64 1]) W (by kernel_rfl) (by kernel_rfl) ?_
  refine runIn rfl (some 18) rfl (.agg #[.string ⟨#[122, 114, 101, 109, 114, 97, 110, 103, 101, 98, 121, 115, 99, 111, 114, 101]⟩, .int .i64 4, .bool true, .int .i64 1, .int .i64 1, .int .i64 1]) W (by kernel_rfl) (by kernel_rfl) ?_
  refine runIn rfl (some 19) rfl (.slice (some ⟨W.heap.size, 0, none⟩) 15 15) (W.alloc (.cells (rcells rw4).toArray 71)) (by kernel_rfl) (by kernel_rfl) ?_
  refine callIn rfl (some 20) rfl 55 #[.func (.yield l) #[] #[], .int .i64 4, .slice (some ⟨W.heap.size, 0, none⟩) 15 15] _ (by kernel_rfl) (tell_in hJ hY (n - 1) 4 rw4 15 (by decide) (by decide) (by decide) W.heap.size pre _ (heap_alloc_new W _) (j_below hJ h0 ((Below.refl _ _).alloc (Nat.le_refl _) _)) hN) ?_
  rintro e w' (⟨rfl, h1⟩ | ⟨rfl, q, h1, h2⟩)
  · refine ⟨_, rfl, runIn rfl (some 2) rfl (.bool true) w' (by kernel_rfl) (by kernel_rfl) (wpListIn_nil ?_)⟩
    dsimp only [Exit.then]
    refine wpIn_ret (bodyPost_ret (v := .bool true) (by kernel_rfl) rfl (Or.inl ⟨rfl, h1⟩))
  · refine ⟨_, rfl, runIn rfl (some 2) rfl (.bool false) w' (by kernel_rfl) (by kernel_rfl) (wpListIn_nil ?_)⟩
    dsimp only [Exit.then]
    refine wpIn_ret (bodyPost_ret (v := .bool false) (by kernel_rfl) rfl (Or.inr ⟨rfl, q, h1, h2⟩))

set_option maxRecDepth 100000 in
set_option maxHeartbeats 8000000 in
theorem of5_in (hJ : AbidesFrom B J)
    (hY : ∀ m pre x W, x.1.length ≤ 20 → J pre W → pre.length < N → YieldAt Fence.wide m Try.prog l #[aggS x] W fun e W' => (e = .returned (.bool true) ∧ J (pre ++ [x]) W' ∧ KpR W W') ∨ (e = .returned (.bool false) ∧ Jx (pre ++ [x]) W'))
    (n : Nat) (pre : List Sp) (W : World) (h0 : J pre W) (hN : pre.length + 12 ≤ N) :
    CallsIn Fence.wide n Try.prog 48 #[.func (.yield l) #[] #[]] W fun e W' =>
      (e = .returned (.bool true) ∧ J (pre ++ rw5.map (toSp 5)) W') ∨ (e = .returned (.bool false) ∧ ∃ q, q <+: rw5.map (toSp 5) ∧ Jx (pre ++ q) W') := by
  refine callsIn_of_wp Try.func48 rfl trivial ?_ rfl
  simp only [Try.ntmps48, List.size_toArray, List.length_cons, List.length_nil, Nat.reduceAdd, Nat.reduceSub, Array.replicate_succ, Array.replicate_zero, List.push_toArray, List.append_toArray, List.nil_append, List.cons_append]
  refine wpIn_seq (wpIn_region_list (runIn rfl (some 2) rfl (.bool false) W (by kernel_rfl) (by kernel_rfl) (wpListIn_nil ?_)))
  dsimp only [Exit.then]
  refine wpIn_seq (wpIn_region_list ?_)
  refine runIn rfl (some 3) rfl (.func (.yield l) #[] #[]) W (by kernel_rfl) (by kernel_rfl) ?_
  refine runIn rfl (some 4) rfl (.agg #[.string ⟨#[104, 115, 101, 116]⟩, .int .i64 (-4), .bool true, .int .i64 1, .int .i64 1, .int .i64 1]) W (by kernel_rfl) (by kernel_rfl) ?_
  refine runIn rfl (some 5) rfl (.agg #[.string ⟨#[104, 115, 101, 116, 110, 120]⟩, .int .i64 4, .bool true, .int .i64 1, .int .i64 1, .int .i64 1]) W (by kernel_rfl) (by kernel_rfl) ?_
  refine runIn rfl (some 6) rfl (.agg #[.string ⟨#[104, 103, 101, 116]⟩, .int .i64 3, .bool false, .int .i64 1, .int .i64 1, .int .i64 1]) W (by kernel_rfl) (by kernel_rfl) ?_
  refine runIn rfl (some 7) rfl (.agg #[.string ⟨#[104, 109, 103, 101, 116]⟩, .int .i64 (-3), .bool false, .int .i64 1, .int .i64 1, .int .i64 1]) W (by kernel_rfl) (by kernel_rfl) ?_
  refine runIn rfl (some 8) rfl (.agg #[.string ⟨#[104, 100, 101, 108]⟩, .int .i64 (-3), .bool true, .int .i64 1, .int .i64 1, .int .i64 1]) W (by kernel_rfl) (by kernel_rfl) ?_
  refine runIn rfl (some 9) rfl (.agg #[.string ⟨#[104, 101, 120, 105, 115, 116, 115]⟩, .int .i64 3, .bool false, .int .i64 1, .int .i64 1, .int .i64 1]) W (by kernel_rfl) (by kernel_rfl) ?_
  refine runIn rfl (some 10) rfl (.agg #[.string ⟨#[104, 108, 101, 110]⟩, .int .i64 2, .bool false, .int .i64 1, .int .i64 1, .int .i64 1]) W (by kernel_rfl) (by kernel_rfl) ?_
  refine runIn rfl (some 11) rfl (.agg #[.string ⟨#[104, 107, 101, 121, 115]⟩, .int .i64 2, .bool false, .int .i64 1, .int .i64 1, .int .i64 1]) W (by kernel_rfl) (by kernel_rfl) ?_
  refine runIn rfl (some 12) rfl (.agg #[.string ⟨#[104, 118, 97, 108, 115]⟩, .int .i64 2, .bool false, .int .i64 1, .int .i64 1, .int .i64 1]) W (by kernel_rfl) (by kernel_rfl) ?_
  refine runIn rfl (some 13) rfl (.agg #[.string ⟨#[104, 103, 101, 116, 97, 108, 108]⟩, .int .i64 2, .bool false, .int .i64 1, .int .i64 1, .int .i64 1]) W (by kernel_rfl) (by kernel_rfl) ?_
  refine runIn rfl (some 14) rfl (.agg #[.string ⟨#[104, 105, 110, 99, 114, 98, 121]⟩, .int .i64 4, .bool true, .int .i64 1, .int .i64 1, .int .i64 1]) W (by kernel_rfl) (by kernel_rfl) ?_
  refine runIn rfl (some 15) rfl (.agg #[.string ⟨#[104, 115, 116, 114, 108, 101, 110]⟩, .int .i64 3, .bool false, .int .i64 1, .int .i64 1, .int .i64 1]) W (by kernel_rfl) (by kernel_rfl) ?_
  refine runIn rfl (some 16) rfl (.slice (some ⟨W.heap.size, 0, none⟩) 12 12) (W.alloc (.cells (rcells rw5).toArray 71)) (by kernel_rfl) (by kernel_rfl) ?_
  refine callIn rfl (some 17) rfl 55 #[.func (.yield l) #[] #[], .int .i64 5, .slice (some ⟨W.heap.size, 0, none⟩) 12 12] _ (by kernel_rfl) (tell_in hJ hY (n - 1) 5 rw5 12 (by decide) (by decide) (by decide) W.heap.size pre _ (heap_alloc_new W _) (j_below hJ h0 ((Below.refl _ _).alloc (Nat.le_refl _) _)) hN) ?_
  rintro e w' (⟨rfl, h1⟩ | ⟨rfl, q, h1, h2⟩)
  · refine ⟨_, rfl, runIn rfl (some 2) rfl (.bool true) w' (by kernel_rfl) (by kernel_rfl) (wpListIn_nil ?_)⟩
    dsimp only [Exit.then]
    refine wpIn_ret (bodyPost_ret (v := .bool true) (by kernel_rfl) rfl (Or.inl ⟨rfl, h1⟩))
  · refine ⟨_, rfl, runIn rfl (some 2) rfl (.bool false) w' (by kernel_rfl) (by kernel_rfl) (wpListIn_nil ?_)⟩
    dsimp only [Exit.then]
    refine wpIn_ret (bodyPost_ret (v := .bool false) (by kernel_rfl) rfl (Or.inr ⟨rfl, q, h1, h2⟩))

set_option maxRecDepth 100000 in
set_option maxHeartbeats 8000000 in
theorem of6_in (hJ : AbidesFrom B J)
    (hY : ∀ m pre x W, x.1.length ≤ 20 → J pre W → pre.length < N → YieldAt Fence.wide m Try.prog l #[aggS x] W fun e W' => (e = .returned (.bool true) ∧ J (pre ++ [x]) W' ∧ KpR W W') ∨ (e = .returned (.bool false) ∧ Jx (pre ++ [x]) W'))
    (n : Nat) (pre : List Sp) (W : World) (h0 : J pre W) (hN : pre.length + 16 ≤ N) :
    CallsIn Fence.wide n Try.prog 49 #[.func (.yield l) #[] #[]] W fun e W' =>
      (e = .returned (.bool true) ∧ J (pre ++ rw6.map (toSp 6)) W') ∨ (e = .returned (.bool false) ∧ ∃ q, q <+: rw6.map (toSp 6) ∧ Jx (pre ++ q) W') := by
  refine callsIn_of_wp Try.func49 rfl trivial ?_ rfl
  simp only [Try.ntmps49, List.size_toArray, List.length_cons, List.length_nil, Nat.reduceAdd, Nat.reduceSub, Array.replicate_succ, Array.replicate_zero, List.push_toArray, List.append_toArray, List.nil_append, List.cons_append]
  refine wpIn_seq (wpIn_region_list (runIn rfl (some 2) rfl (.bool false) W (by kernel_rfl) (by kernel_rfl) (wpListIn_nil ?_)))
  dsimp only [Exit.then]
  refine wpIn_seq (wpIn_region_list ?_)
  refine runIn rfl (some 3) rfl (.func (.yield l) #[] #[]) W (by kernel_rfl) (by kernel_rfl) ?_
  refine runIn rfl (some 4) rfl (.agg #[.string ⟨#[100, 101, 108]⟩, .int .i64 (-2), .bool true, .int .i64 1, .int .i64 (-1), .int .i64 1]) W (by kernel_rfl) (by kernel_rfl) ?_
  refine runIn rfl (some 5) rfl (.agg #[.string ⟨#[101, 120, 105, 115, 116, 115]⟩, .int .i64 (-2), .bool false, .int .i64 1, .int .i64 (-1), .int .i64 1]) W (by kernel_rfl) (by kernel_rfl) ?_
  refine runIn rfl (some 6) rfl (.agg #[.string ⟨#[116, 121, 112, 101]⟩, .int .i64 2, .bool false, .int .i64 1, .int .i64 1, .int .i64 1]) W (by kernel_rfl) (by kernel_rfl) ?_
  refine runIn rfl (some 7) rfl (.agg #[.string ⟨#[101, 120, 112, 105, 114, 101]⟩, .int .i64 3, .bool true, .int .i64 1, .int .i64 1, .int .i64 1]) W (by kernel_rfl) (by kernel_rfl) ?_
  refine runIn rfl (some 8) rfl (.agg #[.string ⟨#[112, 101, 120, 112, 105, 114, 101]⟩, .int .i64 3, .bool true, .int .i64 1, .int .i64 1, .int .i64 1]) W (by kernel_rfl) (by kernel_rfl) ?_
  refine runIn rfl (some 9) rfl (.agg #[.string ⟨#[101, 120, 112, 105, 114, 101, 97, 116]⟩, .int .i64 3, .bool true, .int .i64 1, .int .i64 1, .int .i64 1]) W (by kernel_rfl) (by kernel_rfl) ?_
  refine runIn rfl (some 10) rfl (.agg #[.string ⟨#[112, 101, 120, 112, 105, 114, 101, 97, 116]⟩, .int .i64 3, .bool true, .int .i64 1, .int .i64 1, .int .i64 1]) W (by kernel_rfl) (by kernel_rfl) ?_
  refine runIn rfl (some 11) rfl (.agg #[.string ⟨#[116, 116, 108]⟩, .int .i64 2, .bool false, .int .i64 1, .int .i64 1, .int .i64 1]) W (by kernel_rfl) (by kernel_rfl) ?_
  refine runIn rfl (some 12) rfl (.agg #[.string ⟨#[112, 116, 116, 108]⟩, .int .i64 2, .bool false, .int .i64 1, .int .i64 1, .int .i64 1]) W (by kernel_rfl) (by kernel_rfl) ?_
  refine runIn rfl (some 13) rfl (.agg #[.string ⟨#[112, 101, 114, 115, 105, 115, 116]⟩, .int .i64 2, .bool true, .int .i64 1, .int .i64 1, .int .i64 1]) W (by kernel_rfl) (by kernel_rfl) ?_
  refine runIn rfl (some 14) rfl (.agg #[.string ⟨#[114, 101, 110, 97, 109, 101]⟩, .int .i64 3, .bool true, .int .i64 1, .int .i64 2, .int .i64 1]) W (by kernel_rfl) (by kernel_rfl) ?_
  refine runIn rfl (some 15) rfl (.agg #[.string ⟨#[114, 101, 110, 97, 109, 101, 110, 120]⟩, .int .i64 3, .bool true, .int .i64 1, .int .i64 2, .int .i64 1]) W (by kernel_rfl) (by kernel_rfl) ?_
  refine runIn rfl (some 16) rfl (.agg #[.string ⟨#[107, 101, 121, 115]⟩, .int .i64 2, .bool false, .int .i64 0, .int .i64 0, .int .i64 0]) W (by kernel_rfl) (by kernel_rfl) ?_
  refine runIn rfl (some 17) rfl (.agg #[.string ⟨#[114, 97, 110, 100, 111, 109, 107, 101, 121]⟩, .int .i64 1, .bool false, .int .i64 0, .int .i64 0, .int .i64 0]) W (by kernel_rfl) (by kernel_rfl) ?_
  refine runIn rfl (some 18) rfl (.agg #[.string ⟨#[100, 98, 115, 105, 122, 101]⟩, .int .i64 1, .bool false, .int .i64 0, .int .i64 0, .int .i64 0]) W (by kernel_rfl) (by kernel_rfl) ?_
  refine runIn rfl (some 19) rfl (.agg #[.string ⟨#[102, 108, 117, 115, 104, 97, 108, 108]⟩, .int .i64 1, .bool true, .int .i64 0, .int .i64 0, .int .i64 0]) W (by kernel_rfl) (by kernel_rfl) ?_
  refine runIn rfl (some 20) rfl (.slice (some ⟨W.heap.size, 0, none⟩) 16 16) (W.alloc (.cells (rcells rw6).toArray 71)) (by kernel_rfl) (by kernel_rfl) ?_
  refine callIn rfl (some 21) rfl 55 #[.func (.yield l) #[] #[], .int .i64 6, .slice (some ⟨W.heap.size, 0, none⟩) 16 16] _ (by kernel_rfl) (tell_in hJ hY (n - 1) 6 rw6 16 (by decide) (by decide) (by decide) W.heap.size pre _ (heap_alloc_new W _) (j_below hJ h0 ((Below.refl _ _).alloc (Nat.le_refl _) _)) hN) ?_
  rintro e w' (⟨rfl, h1⟩ | ⟨rfl, q, h1, h2⟩)
  · refine ⟨_, rfl, runIn rfl (some 2) rfl (.bool true) w' (by kernel_rfl) (by kernel_rfl) (wpListIn_nil ?_)⟩
    dsimp only [Exit.then]
    refine wpIn_ret (bodyPost_ret (v := .bool true) (by kernel_rfl) rfl (Or.inl ⟨rfl, h1⟩))
  · refine ⟨_, rfl, runIn rfl (some 2) rfl (.bool false) w' (by kernel_rfl) (by kernel_rfl) (wpListIn_nil ?_)⟩
    dsimp only [Exit.then]
    refine wpIn_ret (bodyPost_ret (v := .bool false) (by kernel_rfl) rfl (Or.inr ⟨rfl, q, h1, h2⟩))

set_option maxRecDepth 100000 in
set_option maxHeartbeats 8000000 in
theorem of7_in (hJ : AbidesFrom B J)
    (hY : ∀ m pre x W, x.1.length ≤ 20 → J pre W → pre.length < N → YieldAt Fence.wide m Try.prog l #[aggS x] W fun e W' => (e = .returned (.bool true) ∧ J (pre ++ [x]) W' ∧ KpR W W') ∨ (e = .returned (.bool false) ∧ Jx (pre ++ [x]) W'))
    (n : Nat) (pre : List Sp) (W : World) (h0 : J pre W) (hN : pre.length + 8 ≤ N) :
    CallsIn Fence.wide n Try.prog 50 #[.func (.yield l) #[] #[]] W fun e W' =>
      (e = .returned (.bool true) ∧ J (pre ++ rw7.map (toSp 7)) W') ∨ (e = .returned (.bool false) ∧ ∃ q, q <+: rw7.map (toSp 7) ∧ Jx (pre ++ q) W') := by
  refine callsIn_of_wp Try.func50 rfl trivial ?_ rfl
  simp only [Try.ntmps50, List.size_toArray, List.length_cons, List.length_nil, Nat.reduceAdd, Nat.reduceSub, Array.replicate_succ, Array.replicate_zero, List.push_toArray, List.append_toArray, List.nil_append, List.cons_append]
  refine wpIn_seq (wpIn_region_list (runIn rfl (some 2) rfl (.bool false) W (by kernel_rfl) (by kernel_rfl) (wpListIn_nil ?_)))
  dsimp only [Exit.then]
  refine wpIn_seq (wpIn_region_list ?_)
  refine runIn rfl (some 3) rfl (.func (.yield l) #[] #[]) W (by kernel_rfl) (by kernel_rfl) ?_
  refine runIn rfl (some 4) rfl (.agg #[.string ⟨#[112, 105, 110, 103]⟩, .int .i64 (-1), .bool false, .int .i64 0, .int .i64 0, .int .i64 0]) W (by kernel_rfl) (by kernel_rfl) ?_
  refine runIn rfl (some 5) rfl (.agg #[.string ⟨#[101, 99, 104, 111]⟩, .int .i64 2, .bool false, .int .i64 0, .int .i64 0, .int .i64 0]) W (by kernel_rfl) (by kernel_rfl) ?_
  refine runIn rfl (some 6) rfl (.agg #[.string ⟨#[119, 97, 105, 116]⟩, .int .i64 3, .bool false, .int .i64 0, .int .i64 0, .int .i64 0]) W (by kernel_rfl) (by kernel_rfl) ?_
  refine runIn rfl (some 7) rfl (.agg #[.string ⟨#[114, 101, 112, 108, 105, 99, 97, 111, 102]⟩, .int .i64 3, .bool false, .int .i64 0, .int .i64 0, .int .i64 0]) W (by kernel_rfl) (by kernel_rfl) ?_
  refine runIn rfl (some 8) rfl (.agg #[.string ⟨#[114, 101, 112, 108, 99, 111, 110, 102]⟩, .int .i64 (-1), .bool false, .int .i64 0, .int .i64 0, .int .i64 0]) W (by kernel_rfl) (by kernel_rfl) ?_
  refine runIn rfl (some 9) rfl (.agg #[.string ⟨#[112, 115, 121, 110, 99]⟩, .int .i64 3, .bool false, .int .i64 0, .int .i64 0, .int .i64 0]) W (by kernel_rfl) (by kernel_rfl) ?_
  refine runIn rfl (some 10) rfl (.agg #[.string ⟨#[114, 111, 108, 101]⟩, .int .i64 1, .bool false, .int .i64 0, .int .i64 0, .int .i64 0]) W (by kernel_rfl) (by kernel_rfl) ?_
  refine runIn rfl (some 11) rfl (.agg #[.string ⟨#[113, 117, 105, 116]⟩, .int .i64 1, .bool false, .int .i64 0, .int .i64 0, .int .i64 0]) W (by kernel_rfl) (by kernel_rfl) ?_
  refine runIn rfl (some 12) rfl (.slice (some ⟨W.heap.size, 0, none⟩) 8 8) (W.alloc (.cells (rcells rw7).toArray 71)) (by kernel_rfl) (by kernel_rfl) ?_
  refine callIn rfl (some 13) rfl 55 #[.func (.yield l) #[] #[], .int .i64 7, .slice (some ⟨W.heap.size, 0, none⟩) 8 8] _ (by kernel_rfl) (tell_in hJ hY (n - 1) 7 rw7 8 (by decide) (by decide) (by decide) W.heap.size pre _ (heap_alloc_new W _) (j_below hJ h0 ((Below.refl _ _).alloc (Nat.le_refl _) _)) hN) ?_
  rintro e w' (⟨rfl, h1⟩ | ⟨rfl, q, h1, h2⟩)
  · refine ⟨_, rfl, runIn rfl (some 2) rfl (.bool true) w' (by kernel_rfl) (by kernel_rfl) (wpListIn_nil ?_)⟩
    dsimp only [Exit.then]
    refine wpIn_ret (bodyPost_ret (v := .bool true) (by kernel_rfl) rfl (Or.inl ⟨rfl, h1⟩))
  · refine ⟨_, rfl, runIn rfl (some 2) rfl (.bool false) w' (by kernel_rfl) (by kernel_rfl) (wpListIn_nil ?_)⟩
    dsimp only [Exit.then]
    refine wpIn_ret (bodyPost_ret (v := .bool false) (by kernel_rfl) rfl (Or.inr ⟨rfl, q, h1, h2⟩))

end

end Go.Proofs.Ytinpimejiepahaa
