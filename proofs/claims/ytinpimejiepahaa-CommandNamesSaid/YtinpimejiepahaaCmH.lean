/-
  Package command's from: the iterator that tells all commands, as a contract. No condition.
-/
import Derived.Test.YtinpimejiepahaaCmG
import Derived.Test.YtinpimejiepahaaCmC
namespace Go.Proofs.Ytinpimejiepahaa
open Go.RowKit Go.Shelf

attribute [local go_sem] Oper.semAt_some

theorem acc_pre7 : accR7 <+: rowsT := by rw [accR_all]; exact List.prefix_refl _
theorem acc_pre6 : accR6 <+: rowsT := (List.prefix_append accR6 _).trans acc_pre7
theorem acc_pre5 : accR5 <+: rowsT := (List.prefix_append accR5 _).trans acc_pre6
theorem acc_pre4 : accR4 <+: rowsT := (List.prefix_append accR4 _).trans acc_pre5
theorem acc_pre3 : accR3 <+: rowsT := (List.prefix_append accR3 _).trans acc_pre4
theorem acc_pre2 : accR2 <+: rowsT := (List.prefix_append accR2 _).trans acc_pre3
theorem acc_pre1 : accR1 <+: rowsT := (List.prefix_append accR1 _).trans acc_pre2
theorem pre_more {a b q : List Sp} (h : q <+: b) (k : a ++ b <+: rowsT) : a ++ q <+: rowsT := ((List.prefix_append_right_inj a).2 h).trans k

section
variable {l B : Nat} {J Jx : List Sp → World → Prop}
set_option maxRecDepth 100000 in
set_option maxHeartbeats 8000000 in
theorem from1_in (hJ : AbidesFrom B J)
    (hY : ∀ m pre x W, x.1.length ≤ 20 → J pre W → pre.length < 99 → YieldAt Fence.wide m Try.prog l #[aggS x] W fun e W' => (e = .returned (.bool true) ∧ J (pre ++ [x]) W' ∧ KpR W W') ∨ (e = .returned (.bool false) ∧ Jx (pre ++ [x]) W'))
    (n : Nat) (hn : 1 ≤ n) (G : Nat) (W : World) (hg : W.cell? ⟨G, 0, none⟩ = some (.int .i64 1)) (h0 : J [] W) :
    CallsIn Fence.wide n Try.prog 43 #[.func (.yield l) #[] #[], .pointer (some ⟨G, 0, none⟩)] W fun e W' =>
      (∃ v, e = .returned v) ∧ ((∃ xs, xs = rowsT ∧ J xs W') ∨ (∃ pre, pre <+: rowsT ∧ Jx pre W')) := by
  have H1 := Lib.hid (of1_in hJ hY (n - 1) [] W h0 (by decide))
  have H2 := Lib.hid (fun W h => of2_in hJ hY (n - 1) accR1 W h (by decide))
  have H3 := Lib.hid (fun W h => of3_in hJ hY (n - 1) accR2 W h (by decide))
  have H4 := Lib.hid (fun W h => of4_in hJ hY (n - 1) accR3 W h (by decide))
  have H5 := Lib.hid (fun W h => of5_in hJ hY (n - 1) accR4 W h (by decide))
  have H6 := Lib.hid (fun W h => of6_in hJ hY (n - 1) accR5 W h (by decide))
  have H7 := Lib.hid (fun W h => of7_in hJ hY (n - 1) accR6 W h (by decide))
  clear hJ hY h0
  refine callsIn_of_wp Try.func43 rfl trivial ?_ rfl
  simp only [Try.ntmps43, List.size_toArray, List.length_cons, List.length_nil, Nat.reduceAdd, Nat.reduceSub, Array.replicate_succ, Array.replicate_zero, List.push_toArray, List.append_toArray, List.nil_append, List.cons_append]
  gi_wp2_with (refine ⟨trivial, ?_⟩; gi_at_call 44; refine (H1.out).mono ?_; rintro e w1 (⟨rfl, j1⟩ | ⟨rfl, q, p1, x1⟩))
  rotate_left
  · refine bodyPost_ret (results_none rfl _ _ _) rfl ?_
    exact ⟨⟨_, rfl⟩, .inr ⟨_, pre_more (a := []) p1 acc_pre1, x1⟩⟩
  gi_wp2_with (refine ⟨trivial, ?_⟩; gi_at_call 45; refine (H2.out w1 j1).mono ?_; rintro e w2 (⟨rfl, j2⟩ | ⟨rfl, q, p2, x2⟩))
  rotate_left
  · refine bodyPost_ret (results_none rfl _ _ _) rfl ?_
    exact ⟨⟨_, rfl⟩, .inr ⟨_, pre_more (a := accR1) p2 acc_pre2, x2⟩⟩
  gi_wp2_with (refine ⟨trivial, ?_⟩; gi_at_call 46; refine (H3.out w2 j2).mono ?_; rintro e w3 (⟨rfl, j3⟩ | ⟨rfl, q, p3, x3⟩))
  rotate_left
  · refine bodyPost_ret (results_none rfl _ _ _) rfl ?_
    exact ⟨⟨_, rfl⟩, .inr ⟨_, pre_more (a := accR2) p3 acc_pre3, x3⟩⟩
  gi_wp2_with (refine ⟨trivial, ?_⟩; gi_at_call 47; refine (H4.out w3 j3).mono ?_; rintro e w4 (⟨rfl, j4⟩ | ⟨rfl, q, p4, x4⟩))
  rotate_left
  · refine bodyPost_ret (results_none rfl _ _ _) rfl ?_
    exact ⟨⟨_, rfl⟩, .inr ⟨_, pre_more (a := accR3) p4 acc_pre4, x4⟩⟩
  gi_wp2_with (refine ⟨trivial, ?_⟩; gi_at_call 48; refine (H5.out w4 j4).mono ?_; rintro e w5 (⟨rfl, j5⟩ | ⟨rfl, q, p5, x5⟩))
  rotate_left
  · refine bodyPost_ret (results_none rfl _ _ _) rfl ?_
    exact ⟨⟨_, rfl⟩, .inr ⟨_, pre_more (a := accR4) p5 acc_pre5, x5⟩⟩
  gi_wp2_with (refine ⟨trivial, ?_⟩; gi_at_call 49; refine (H6.out w5 j5).mono ?_; rintro e w6 (⟨rfl, j6⟩ | ⟨rfl, q, p6, x6⟩))
  rotate_left
  · refine bodyPost_ret (results_none rfl _ _ _) rfl ?_
    exact ⟨⟨_, rfl⟩, .inr ⟨_, pre_more (a := accR5) p6 acc_pre6, x6⟩⟩
  gi_wp2_with (refine ⟨trivial, ?_⟩; gi_at_call 50; refine (H7.out w6 j6).mono ?_; rintro e w7 (⟨rfl, j7⟩ | ⟨rfl, q, p7, x7⟩))
  · go_end0
    exact ⟨⟨_, rfl⟩, .inl ⟨_, accR_all, j7⟩⟩
  · go_end0
    exact ⟨⟨_, rfl⟩, .inr ⟨_, pre_more (a := accR6) p7 acc_pre7, x7⟩⟩
end

theorem from_stops (n : Nat) (hn : 1 ≤ n) (G : Nat) (w : World) (hg : w.cell? ⟨G, 0, none⟩ = some (.int .i64 1)) :
    SeqStopsK Fence.wide n Try.prog 43 #[.pointer (some ⟨G, 0, none⟩)] (fun x : Sp => #[aggS x]) KpR (fun ys => ys = rowsT) (fun pre => pre <+: rowsT) 99 w := fun _ _ _ W hW hJ _ hY h0 =>
  from1_in hJ (fun _ pre x W1 _ hj hl => yield_deep (hY pre x W1 hj hl)) n hn G W ((hW.cell (p := ⟨G, 0, none⟩) (World.block_lt_of_cell? w _ hg)).trans hg) h0

/-- A command whose name is short. -/
abbrev SpS := { x : Sp // x.1.length ≤ 20 }

theorem from_stopsS (n : Nat) (hn : 1 ≤ n) (G : Nat) (w : World) (hg : w.cell? ⟨G, 0, none⟩ = some (.int .i64 1)) :
    SeqStopsK Fence.wide n Try.prog 43 #[.pointer (some ⟨G, 0, none⟩)] (fun x : SpS => #[aggS x.1]) KpR (fun ys => ys.map (·.1) = rowsT) (fun _ => True) 99 w := fun l J Jx W hW hJ hJx hY h0 => by
  have q := from1_in (l := l) (B := W.heap.size) (J := fun pre X => ∃ p : List SpS, p.map (·.1) = pre ∧ J p X) (Jx := fun pre X => ∃ p : List SpS, p.map (·.1) = pre ∧ Jx p X)
    (fun s A B row ⟨p, h1, h2⟩ hg' hr => ⟨p, h1, hJ p A B row h2 hg' hr⟩)
    (fun _ pre x W1 hx ⟨p, h1, h2⟩ hl => by
      refine yield_deep (YieldAt.mono (hY p ⟨x, hx⟩ W1 h2 (by rw [← h1, List.length_map] at hl; exact hl)) ?_)
      rintro e W' (⟨he, h3, h4⟩ | ⟨he, h3⟩)
      · exact Or.inl ⟨he, ⟨_, by rw [List.map_append, h1]; rfl, h3⟩, h4⟩
      · exact Or.inr ⟨he, ⟨_, by rw [List.map_append, h1]; rfl, h3⟩⟩)
    n hn G W ((hW.cell (p := ⟨G, 0, none⟩) (World.block_lt_of_cell? w _ hg)).trans hg) ⟨[], rfl, h0⟩
  refine q.mono ?_
  rintro e W' ⟨hv, (⟨xs, rfl, p, h1, h2⟩ | ⟨pre, _, p, _, h2⟩)⟩
  · exact ⟨hv, .inl ⟨p, h1, h2⟩⟩
  · exact ⟨hv, .inr ⟨p, trivial, h2⟩⟩

set_option maxRecDepth 100000 in
set_option maxHeartbeats 4000000 in
theorem from_any (w : World) : Calls Try.prog 23 #[.int .i64 1] w fun e w' => e = .returned (.func (.func 43) #[] #[.pointer (some ⟨w.heap.size, 0, none⟩)]) ∧ w' = w.alloc (.cells #[.int .i64 1] 25) := by
  have hmf : ∀ (fn : Fn) (first cap : Array Value) (w : World), (Instr.makeFunc fn first cap).run Try.prog w = .ok (.func fn first cap) w := fun _ _ _ _ => rfl
  go_enter Try.func23, Try.ntmps23
  go_wp2
  go_ret
  exact ⟨rfl, rfl⟩

end Go.Proofs.Ytinpimejiepahaa
