/-
  The statement ReplyAll of layer 3: for every input it answers true, and each argument reads behind the call as it read before. Condition: the listed variables hold what the program's own text lays (the card is tied: the program lays them).
-/
import Derived.Test.YtppbcdollomebaaDoorRzW
import Derived.Test.YtppbcdollomebaaDoorTab8
import Derived.Test.YtppbcdollomebaaDoorNumE
import Derived.Test.YtppbcdollomebaaDoorBase
import Derived.Test.YtppbcdollomebaaDoorArgs
import Derived.Test.YtppbcdollomebaaDoorWit
import Derived.Test.YtppbcdollomebaaDoorCards
import Derived.Test.YtppbcdollomebaaDoorTie
namespace Go.Proofs.YtppbcdollomebaaDoor
open Go.ChangeShapes Go.WideShapes Go.ChangeAt Go.RowKit
open Go.WideMaps Go.WideElems
open Go.ChangeMaps (setBlock shut_map_nil open_string shut_string keptBut_setBlock frozen?_setBlock heap_setBlock_same)

namespace lawReplyAll
set_option maxRecDepth 100000 in
theorem contract (H : Type) (enc : TypeId × Value → H) (W : World) (base : Nat) (args : Array Value) (ds gs : List (DataW H)) (before : List MemPlace)
    (hval : ∀ (j : Nat) t v, Tryd.f5.params[j]? = some t → args[j]? = some v → Value.okWide Tryd.prog W .any base t v)
    (hW : DataW.Whole enc Tryd.prog Tryd.f5.params.toList Rows.replyAllSpec.vars false W args.toList ds gs before) (hsz0 : (DataW.weightsEach Tryd.prog (Tryd.f5.params.toList ++ Rows.replyAllSpec.plain.varTypes Tryd.prog) (ds ++ gs)).all (· ≤ reachBytes) = true) (hL : laidMetH Tryd.prog Rows.replyAllRow.laid W) (hsh : W.ShapedOpen Tryd.prog) :
    Calls Tryd.prog 5 args W fun e W' => ∃ v, e = .returned v ∧ Rows.replyAllSpec.post enc Tryd.prog Tryd.f5 false true false false W args v W' := by
  have hW' := hW
  have hsz := hsz0
  clear hsz0
  obtain ⟨p, q, hA0, hV, rfl, hfz, hnd⟩ := hW
  have hA : DataW.TrodAll enc Tryd.prog W 0 (fun _ => true) true Tryd.f5.params.toList args.toList ds p := hA0
  rw [Tryd.params5] at hA hval hsz
  obtain ⟨v0, vs0, d0, ds0, p0, q0, hargs, rfl, rfl, h0, r0⟩ := trodAll_cons hA
  obtain ⟨rfl, rfl, rfl⟩ := trodAll_nil r0
  obtain rfl : args = #[v0] := by cases args; simp_all
  obtain ⟨rfl, rfl⟩ := trodVars_none hV
  have hp := pows_of_list hL (by kernel_rfl)
  have hT := tabs8_of_list (d1 := Rows.laid_unicode_utf8_first) (d2 := Rows.laid_unicode_utf8_acceptRanges) hL hsh (by kernel_rfl) (by kernel_rfl) (by kernel_rfl) (.tail _ (.tail _ (.tail _ (.tail _ (.head _))))) (.tail _ (.tail _ (.tail _ (.head _))))
  have h6 := six_of_shape hsh
  clear hA0
  simp only [List.append_nil] at hW'
  have hgo : ∀ (e : Ending) (W' : World), (e = .returned (.bool true) ∧ Below W.heap.size W W') → ∃ v, e = .returned v ∧ Rows.replyAllSpec.post enc Tryd.prog Tryd.f5 false true false false W #[v0] v W' := fun e W' ⟨he, hb⟩ =>
    ⟨_, he, law_post (tb := 4) laidOut (by kernel_rfl) rfl rfl Tryd.underlying4 rfl hW' hb⟩
  clear hW'
  obtain ⟨a0, len, cap, rfl⟩ := okWide_slice Tryd.underlying26 (hval 0 26 v0 rfl rfl)
  obtain ⟨fuel, hf⟩ := h0
  rcases open_ints Tryd.underlying26 Tryd.underlying5 (by kernel_rfl) hf with ⟨hcs, hx⟩ | ⟨a, len', cap', zs, hcs, _, hl, hm, hz, hx, hcell, hwz⟩
  · simp [Value.cells] at hcs
    obtain ⟨rfl, rfl, rfl⟩ := hcs
    exact (replyAll_walk none 0 0 0 [] W h6 (fun h => absurd rfl h) (fun _ => rfl) (bytes_nil _ _ _) (Nat.le_refl _) (by omega) hT hp).mono hgo
  · simp [Value.cells] at hcs
    obtain ⟨rfl, rfl, rfl⟩ := hcs
    simp only [Prod.mk.injEq] at hx
    obtain ⟨rfl, rfl⟩ := hx
    have hz : zs.length = cap := hz
    have hr : cap * 1 ≤ 140737488351232 := by
      have := sized_slice hsz (j := 0) (t := 26) (e := 5) rfl rfl Tryd.underlying26
      rw [show Tryd.prog.bytesOf 5 = 1 by kernel_rfl] at this
      simp only [lits, List.length_map, List.length_take, List.length_drop] at this
      have hrb : reachBytes = 140737488351232 := rfl
      rw [hrb, show min len zs.length + (zs.length - len) = cap by omega] at this
      exact this
    by_cases hz0 : len = 0
    · subst hz0
      exact (replyAll_walk (some a) 0 0 cap [] W h6 (fun h => absurd rfl h) (fun h => by cases h) (bytes_nil _ _ _) (Nat.zero_le _) (by omega) hT hp).mono hgo
    · obtain ⟨b, o, rfl, hc⟩ := ints_at hcell (by omega)
      have hm0 : len ≤ cap := hl
      have hb0 : b < W.heap.size := World.block_lt_of_cell? W _ (hc 0 (by omega))
      obtain ⟨l0, hl0, hc0⟩ := bytes_arg (len := len) (by omega) hwz hc
      subst hl0
      exact (replyAll_walk (some ⟨b, o, none⟩) b o cap l0 W h6 (fun _ => ⟨rfl, hb0⟩) (fun h => by cases h) hc0 hm0 (by omega) hT hp).mono hgo

theorem reads (os : Os) {H : Type} (enc : TypeId × Value → H) : ∃ places, DataW.whole enc Tryd.prog ((World.laidAll Tryd.prog os Rows.replyAllRow.laid).forCall (fun _ _ => 0) ⟨#[], #[Value.slice none 0 0], []⟩).memory Tryd.f5.params.toList Rows.replyAllSpec.vars false #[Value.slice none 0 0].toList 8 = some ([.nil], [], places) :=
  ⟨[], by kernel_rfl⟩
theorem door_met (os : Os) (args : Array Value) : laidMetH Tryd.prog Rows.replyAllRow.laid ((World.laidAll Tryd.prog os Rows.replyAllRow.laid).forCall (fun _ _ => 0) ⟨#[], args, []⟩).memory :=
  by
    rw [MakeChecks.laidMetH_plain _ _ _ (by kernel_rfl)]
    exact laidMet_laidAll _ (by kernel_rfl) (by kernel_rfl)
set_option maxRecDepth 100000 in
theorem lifted (os : Os) (started : os.Started) (H : Type) (enc : TypeId × Value → H) (F : Stop.Interp) :
    ReturnsInHanded {} Tryd.checked os 5 .any ((OpenSpec.ofChange Rows.replyAllSpec).preRow enc Tryd.prog Tryd.f5 Rows.replyAllRow.domain false Rows.replyAllRow.laid) (((OpenSpec.ofChange Rows.replyAllSpec).at F).post enc Tryd.prog Tryd.f5 false true false false) := by
  obtain ⟨places, hx⟩ := reads os enc
  refine returnsInHanded_of_row (C := Tryd.checked) (s := OpenSpec.ofChange Rows.replyAllSpec) ownGodebug started (by kernel_rfl) Tryd.func5
    (witness_row_zip (enc := enc) (C := Tryd.checked) false (World.laidAll Tryd.prog os Rows.replyAllRow.laid) #[Value.slice none 0 0] (World.laidAll_os _ _ _) (World.shaped_of_ZipB (by kernel_rfl) (by kernel_rfl)) (by kernel_rfl)
      (OpenSpec.preRow_of_cond 8 hx (by kernel_rfl) (fun k hk => by cases hk) (by kernel_rfl) (door_met os _))) ?_
  intro W base args ds gs before hval hW _ _ hsz hL hsh _
  exact contract H enc W base args ds gs before hval hW hsz hL hsh
theorem said : Rows.ReplyAllSaid :=
  OpenClaim.holds_of_cond 5 Tryd.f5 rfl rfl rfl rfl rfl rfl rfl ⟨rfl, rfl, rfl, rfl, rfl⟩ rfl rfl rfl rfl rfl (by kernel_rfl) Tryd.func5 (by kernel_rfl)
    (of_decide_eq_true (by kernel_rfl)) (by unfold Func.isWrapper; first | (rw [if_pos (by decide +kernel)]; kernel_rfl) | (rw [if_neg (by decide +kernel)]; exact ⟨rfl, rfl⟩))
    (fun os started H enc _ F => by rw [OpenClaim.pre_eq_preRow]; exact lifted os started H enc F)
theorem plain (f : FuncId) (fn : Func) (hf : Tryd.pinned.checked.prog.funcNamed "millpond/millpondlaw03.ReplyAll" = some f) (hfn : Tryd.pinned.checked.prog.funcs[f]? = some fn) :
    true = Tryd.pinned.checked.prog.looks [] ∧ ∀ (j : Nat) t, fn.params[j]? = some t → Tryd.pinned.checked.prog.wantsStandIn t = false := by
  obtain rfl : f = 5 := Option.some.inj ((show Tryd.prog.funcNamed "millpond/millpondlaw03.ReplyAll" = some 5 by kernel_rfl).symm.trans hf) |>.symm
  obtain rfl : fn = Tryd.f5 := (Option.some.inj (Tryd.func5.symm.trans hfn)).symm
  refine ⟨by kernel_rfl, fun j t ht => ?_⟩
  exact no_standIn (by kernel_rfl) j t ht
theorem card : Rows.ReplyAllCardSaid :=
  Claim7.holds_tied_plain_at .later [] _ _ _ _ said (fun _ h => by cases h) (by kernel_rfl) (fun _ h => by cases h) replyAll_row_tie rfl ⟨rfl, rfl⟩ (by kernel_rfl) rfl plain (by kernel_rfl)
end lawReplyAll

end Go.Proofs.YtppbcdollomebaaDoor
