/-
  The statement RespNobody of layer 2: for every input it answers true, and each argument reads behind the call as it read before. No condition.
-/
import Derived.Test.YtmbgonldbhpanaaRpC4
import Derived.Test.YtmbgonldbhpanaaBase
import Derived.Test.YtmbgonldbhpanaaArgs
namespace Go.Proofs.Ytmbgonldbhpanaa
open Go.ChangeShapes Go.WideShapes Go.ChangeAt Go.RowKit
open Go.WideMaps Go.WideElems
open Go.ChangeMaps (setBlock shut_map_nil open_string shut_string keptBut_setBlock frozen?_setBlock heap_setBlock_same)

namespace lawRespNobody
theorem contract (H : Type) (enc : TypeId × Value → H) (W : World) (base : Nat) (args : Array Value) (ds gs : List (DataW H)) (before : List MemPlace)
    (hval : ∀ (j : Nat) t v, Try.f8.params[j]? = some t → args[j]? = some v → Value.okWide Try.prog W .any base t v)
    (hW : DataW.Whole enc Try.prog Try.f8.params.toList Rows.respNobodySpec.vars false W args.toList ds gs before) (hsz0 : (DataW.weightsEach Try.prog (Try.f8.params.toList ++ Rows.respNobodySpec.plain.varTypes Try.prog) (ds ++ gs)).all (· ≤ reachBytes) = true) :
    Calls Try.prog 8 args W fun e W' => ∃ v, e = .returned v ∧ Rows.respNobodySpec.post enc Try.prog Try.f8 false true false false W args v W' := by
  have hW' := hW
  have hsz := hsz0
  clear hsz0
  obtain ⟨p, q, hA0, hV, rfl, hfz, hnd⟩ := hW
  have hA : DataW.TrodAll enc Try.prog W 0 (fun _ => true) true Try.f8.params.toList args.toList ds p := hA0
  rw [Try.params8] at hA hval hsz
  obtain ⟨v0, vs0, d0, ds0, p0, q0, hargs, rfl, rfl, h0, r0⟩ := trodAll_cons hA
  obtain ⟨rfl, rfl, rfl⟩ := trodAll_nil r0
  obtain rfl : args = #[v0] := by cases args; simp_all
  obtain ⟨rfl, rfl⟩ := trodVars_none hV
  clear hA0
  simp only [List.append_nil] at hW'
  obtain ⟨a0, len0, cap0, rfl⟩ := okWide_slice Try.underlying22 (hval 0 22 v0 rfl rfl)
  obtain ⟨fuel, hf⟩ := h0
  rcases open_ints Try.underlying22 Try.underlying5 (by kernel_rfl) hf with ⟨hcs, hx⟩ | ⟨a, len', cap', zs, hcs, _, hl, hm, hz, hx, hcell, hwz⟩
  · simp [Value.cells] at hcs
    obtain ⟨rfl, rfl, rfl⟩ := hcs
    simp only [Prod.mk.injEq] at hx
    obtain ⟨rfl, rfl⟩ := hx
    refine (respNobody_none none 0 W).mono fun e W' ⟨he, hb⟩ => ?_
    exact ⟨_, he, law_post (tb := 4) laidOut (by kernel_rfl) rfl rfl Try.underlying4 rfl hW' hb⟩
  · simp [Value.cells] at hcs
    obtain ⟨rfl, rfl, rfl⟩ := hcs
    simp only [Prod.mk.injEq] at hx
    obtain ⟨rfl, rfl⟩ := hx
    have hz : zs.length = cap0 := hz
    have hr0 : cap0 * 1 ≤ 140737488351232 := by
      have := sized_slice hsz (j := 0) (t := 22) (e := 5) rfl rfl Try.underlying22
      rw [show Try.prog.bytesOf 5 = 1 by kernel_rfl] at this
      simp only [lits, List.length_map, List.length_take, List.length_drop] at this
      have hrb : reachBytes = 140737488351232 := rfl
      rw [hrb, show min len0 zs.length + (zs.length - len0) = cap0 by omega] at this
      exact this
    by_cases hz0 : len0 = 0
    · subst hz0
      refine (respNobody_none (some a) cap0 W).mono fun e W' ⟨he, hb⟩ => ?_
      exact ⟨_, he, law_post (tb := 4) laidOut (by kernel_rfl) rfl rfl Try.underlying4 rfl hW' hb⟩
    · obtain ⟨b0, off0, rfl, hc⟩ := ints_at hcell (by omega)
      have hm0 : len0 ≤ cap0 := hl
      have hb0 : b0 < W.heap.size := World.block_lt_of_cell? W _ (hc 0 (by omega))
      obtain ⟨l0, hl0, hc0⟩ := bytes_arg (len := len0) (by omega) hwz hc
      subst hl0
      refine (respNobody_some b0 off0 cap0 l0 W hm0 (by omega)).mono fun e W' ⟨he, hb⟩ => ?_
      exact ⟨_, he, law_post (tb := 4) laidOut (by kernel_rfl) rfl rfl Try.underlying4 rfl hW' hb⟩

theorem reads (os : Os) {H : Type} (enc : TypeId × Value → H) : ∃ places, DataW.whole enc Try.prog ((World.doorLaid Try.prog 0 os).forCall (fun _ _ => 0) ⟨#[], #[Value.slice none 0 0], []⟩).memory Try.f8.params.toList Rows.respNobodySpec.vars false #[Value.slice none 0 0].toList 8 = some ([.nil], [], places) :=
  ⟨[], by kernel_rfl⟩
theorem door_met (os : Os) (args : Array Value) : laidMetH Try.prog Rows.respNobodyRow.laid ((World.doorLaid Try.prog 0 os).forCall (fun _ _ => 0) ⟨#[], args, []⟩).memory :=
  laidMetH_nil _ _
set_option maxRecDepth 100000 in
theorem lifted (os : Os) (started : os.Started) (H : Type) (enc : TypeId × Value → H) (F : Stop.Interp) :
    ReturnsInHanded {} Try.checked os 8 .any ((OpenSpec.ofChange Rows.respNobodySpec).preRow enc Try.prog Try.f8 Rows.respNobodyRow.domain false Rows.respNobodyRow.laid) (((OpenSpec.ofChange Rows.respNobodySpec).at F).post enc Try.prog Try.f8 false true false false) := by
  obtain ⟨places, hx⟩ := reads os enc
  refine returnsInHanded_of_row (C := Try.checked) (s := OpenSpec.ofChange Rows.respNobodySpec) ownGodebug started (by kernel_rfl) Try.func8
    (witness_row_atRef (enc := enc) (C := Try.checked) false (World.doorLaid Try.prog 0 os) #[Value.slice none 0 0] rfl (by kernel_rfl) (by kernel_rfl) (by kernel_rfl)
      (OpenSpec.preRow_of_cond 8 hx (by kernel_rfl) (fun k hk => by cases hk) (by kernel_rfl) (door_met os _))) ?_
  intro W base args ds gs before hval hW _ _ hsz _ _ _
  exact contract H enc W base args ds gs before hval hW hsz
theorem said : Rows.RespNobodySaid :=
  OpenClaim.holds_of_cond 8 Try.f8 rfl rfl rfl rfl rfl rfl rfl ⟨rfl, rfl, rfl, rfl, rfl⟩ rfl rfl rfl rfl rfl (by kernel_rfl) Try.func8 (by kernel_rfl)
    (of_decide_eq_true (by kernel_rfl)) (by unfold Func.isWrapper; first | (rw [if_pos (by decide +kernel)]; kernel_rfl) | (rw [if_neg (by decide +kernel)]; exact ⟨rfl, rfl⟩))
    (fun os started H enc _ F => by rw [OpenClaim.pre_eq_preRow]; exact lifted os started H enc F)
end lawRespNobody

end Go.Proofs.Ytmbgonldbhpanaa
