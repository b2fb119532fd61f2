/-
  The statement RespFeeds of layer 2: for every input it answers true, and its argument reads behind the call as it read before. No condition.
-/
import Derived.Test.YtkaododohnncnaaRpC7
import Derived.Test.YtkaododohnncnaaBase
import Derived.Test.YtkaododohnncnaaArgs
import Derived.Deep.Matrix
namespace Go.Proofs.Ytkaododohnncnaa
open Go.ChangeShapes Go.WideShapes Go.ChangeAt Go.RowKit
open Go.WideMaps Go.WideElems
open Go.ChangeMaps (setBlock shut_map_nil open_string shut_string keptBut_setBlock frozen?_setBlock heap_setBlock_same)

/-- A slice of numbers that fit a byte, as bytes. -/
theorem src_arg {W : World} {A : Option Addr} {len cap : Nat} {zs : List Int} (hl : len ≤ cap) (hcap : cap ≤ 9223372036854775807) (hz : zs.length = cap) (hw : ∀ n ∈ zs, (Lit.int .u8 n).wf = true) (hn : A = none → cap = 0) (hc : ∀ ad, A = some ad → ∀ j, j < cap → W.cell? (ad.add j) = some (.int .u8 (zs.getD j 0))) :
    SrcAt W (.slice A len cap) ((zs.take len).map fun z => UInt8.ofNat z.toNat) := by
  have hlen : ((zs.take len).map fun z => UInt8.ofNat z.toNat).length = len := by rw [List.length_map, List.length_take]; omega
  refine ⟨A, cap, by rw [hlen], by omega, hcap, hn, fun ad e j hj => ?_⟩
  rw [hlen] at hj
  have hj2 : j < zs.length := by omega
  rw [hc ad e j (by omega)]
  have hb := u8_wf (hw _ (List.getElem_mem hj2))
  have e1 : zs.getD j 0 = zs[j] := by rw [List.getD_eq_getElem?_getD, List.getElem?_eq_getElem hj2]; rfl
  have e2 : ((zs.take len).map fun z => UInt8.ofNat z.toNat).getD j 0 = UInt8.ofNat (zs[j]).toNat := by
    rw [List.getD_eq_getElem?_getD, List.getElem?_map, List.getElem?_take, if_pos hj, List.getElem?_eq_getElem hj2]; rfl
  rw [e1, e2, UInt8.toNat_ofNat']
  congr 2
  omega

theorem weights_mem_all {H : Type} {P : Program} {e : TypeId} {d : DataW H} {n : Nat} (hn : n ∈ d.weights P e) : ∀ {ds : List (DataW H)}, d ∈ ds → n ∈ DataW.weightsAll P e ds
  | x :: r, h => by
    simp only [DataW.weightsAll, List.mem_append]
    rcases List.mem_cons.1 h with rfl | h
    · exact Or.inl hn
    · exact Or.inr (weights_mem_all hn h)

namespace lawRespFeeds
theorem contract (H : Type) (enc : TypeId × Value → H) (W : World) (base : Nat) (args : Array Value) (ds gs : List (DataW H)) (before : List MemPlace)
    (hval : ∀ (j : Nat) t v, Try.f3.params[j]? = some t → args[j]? = some v → Value.okWide Try.prog W .any base t v)
    (hW : DataW.Whole enc Try.prog Try.f3.params.toList Rows.respFeedsSpec.vars false W args.toList ds gs before) (hsz0 : (DataW.weightsEach Try.prog (Try.f3.params.toList ++ Rows.respFeedsSpec.plain.varTypes Try.prog) (ds ++ gs)).all (· ≤ reachBytes) = true) :
    Calls Try.prog 3 args W fun e W' => ∃ v, e = .returned v ∧ Rows.respFeedsSpec.post enc Try.prog Try.f3 false true false false W args v W' := by
  have hW' := hW
  have hsz := hsz0
  clear hsz0
  obtain ⟨p, q, hA0, hV, rfl, hfz, hnd⟩ := hW
  have hA : DataW.TrodAll enc Try.prog W 0 (fun _ => true) true Try.f3.params.toList args.toList ds p := hA0
  rw [Try.params3] at hA hval hsz
  obtain ⟨v0, vs0, d0, ds0, p0, q0, hargs, rfl, rfl, h0, r0⟩ := trodAll_cons hA
  obtain ⟨rfl, rfl, rfl⟩ := trodAll_nil r0
  obtain rfl : args = #[v0] := by cases args; simp_all
  obtain ⟨rfl, rfl⟩ := trodVars_none hV
  clear hA0
  simp only [List.append_nil] at hW'
  obtain ⟨a0, len, cap, rfl⟩ := okWide_slice Try.underlying22 (hval 0 22 v0 rfl rfl)
  obtain ⟨fuel, hf⟩ := h0
  have hgo : ∀ (e : Ending) (W' : World), (e = .returned (.bool true) ∧ Below W.heap.size W W') → ∃ v, e = .returned v ∧ Rows.respFeedsSpec.post enc Try.prog Try.f3 false true false false W #[.slice a0 len cap] v W' := fun e W' ⟨he, hb⟩ =>
    ⟨_, he, law_post (tb := 4) laidOut (by kernel_rfl) rfl rfl Try.underlying4 rfl hW' hb⟩
  rcases Go.Deep.open_int_rows Try.underlying22 Try.underlying27 Try.underlying5 (by kernel_rfl) (by kernel_rfl) hf with ⟨hcs, hx⟩ | ⟨a, len', cap', A, L, C, Z, hcs, _, hl, hm, hx, hrow⟩
  · simp [Value.cells] at hcs
    obtain ⟨rfl, rfl, rfl⟩ := hcs
    exact (respFeeds_walk none 0 0 0 0 (fun _ => .bool false) (fun _ => []) W (fun h => absurd h (Nat.lt_irrefl 0)) (fun i h => absurd h (Nat.not_lt_zero i))).mono hgo
  · simp [Value.cells] at hcs
    obtain ⟨rfl, rfl, rfl⟩ := hcs
    simp only [Prod.mk.injEq] at hx
    obtain ⟨rfl, rfl⟩ := hx
    by_cases hz0 : len = 0
    · subst hz0
      exact (respFeeds_walk (some a) 0 0 0 cap (fun _ => .bool false) (fun _ => []) W (fun h => absurd h (Nat.lt_irrefl 0)) (fun i h => absurd h (Nat.not_lt_zero i))).mono hgo
    · obtain ⟨b, off, spot⟩ := a
      have hspot : spot = none := by simpa [Addr.add] using World.cell?_spot (hrow 0 (by omega)).1
      subst hspot
      have hsz1 : ∀ i, i < len → A i ≠ none → C i ≤ 140737488351232 := by
        intro i hi hA
        obtain ⟨ad, had⟩ := Option.ne_none_iff_exists'.1 hA
        have hmem : Go.Deep.intRow .u8 (A i) (L i) (Z i) ∈ ((List.range len).map fun r => Go.Deep.intRow (H := H) .u8 (A r) (L r) (Z r)) := List.mem_map.2 ⟨i, List.mem_range.2 hi, rfl⟩
        have hw1 : C i * Try.prog.bytesOf 5 ∈ (Go.Deep.intRow (H := H) .u8 (A i) (L i) (Z i)).weights Try.prog 27 := by
          rw [had]
          unfold Go.Deep.intRow
          simp only [DataW.weights, Try.underlying27, List.mem_cons]
          refine Or.inl ?_
          have := (hrow i (by omega)).2.2.2.1
          have := (hrow i (by omega)).2.1
          simp only [lits, List.length_map, List.length_take, List.length_drop]
          congr 1
          omega
        have h1 := weights_mem_all hw1 hmem
        have h2 := List.all_eq_true.1 hsz _ (DataW.weights_mem_each (j := 0) (t := 22) rfl rfl (C i * Try.prog.bytesOf 5) (by
          simp only [DataW.weights, Try.underlying22, List.mem_cons, List.mem_append]
          exact Or.inr (Or.inl h1)))
        rw [show Try.prog.bytesOf 5 = 1 by kernel_rfl] at h2
        simpa [reachBytes] using h2
      refine (respFeeds_walk (some ⟨b, off, none⟩) b off len cap (fun i => .slice (A i) (L i) (C i)) (fun i => ((Z i).take (L i)).map fun z => UInt8.ofNat z.toNat) W (fun _ => rfl) (fun i hi => ?_)).mono hgo
      obtain ⟨r1, r2, r3, r4, r5, r6, r7⟩ := hrow i (by omega)
      refine ⟨by rw [← Go.WideShapes.add_plain]; exact r1, src_arg r2 (by unfold maxLen at r3; omega) r4 r5 r6 (fun ad e j hj => (r7 ad e).2 j hj), ?_⟩
      rw [List.length_map, List.length_take]
      by_cases hA : A i = none
      · have := r6 hA; omega
      · have := hsz1 i hi hA; omega

theorem reads (os : Os) {H : Type} (enc : TypeId × Value → H) : ∃ places, DataW.whole enc Try.prog ((World.doorLaid Try.prog 0 os).forCall (fun _ _ => 0) ⟨#[], #[Value.slice none 0 0], []⟩).memory Try.f3.params.toList Rows.respFeedsSpec.vars false #[Value.slice none 0 0].toList 8 = some ([.nil], [], places) :=
  ⟨[], by kernel_rfl⟩
theorem door_met (os : Os) (args : Array Value) : laidMetH Try.prog Rows.respFeedsRow.laid ((World.doorLaid Try.prog 0 os).forCall (fun _ _ => 0) ⟨#[], args, []⟩).memory :=
  laidMetH_nil _ _
set_option maxRecDepth 100000 in
theorem lifted (os : Os) (started : os.Started) (H : Type) (enc : TypeId × Value → H) (F : Stop.Interp) :
    ReturnsInHanded {} Try.checked os 3 .any ((OpenSpec.ofChange Rows.respFeedsSpec).preRow enc Try.prog Try.f3 Rows.respFeedsRow.domain false Rows.respFeedsRow.laid) (((OpenSpec.ofChange Rows.respFeedsSpec).at F).post enc Try.prog Try.f3 false true false false) := by
  obtain ⟨places, hx⟩ := reads os enc
  refine returnsInHanded_of_row (C := Try.checked) (s := OpenSpec.ofChange Rows.respFeedsSpec) ownGodebug started (by kernel_rfl) Try.func3
    (witness_row_atRef (enc := enc) (C := Try.checked) false (World.doorLaid Try.prog 0 os) #[Value.slice none 0 0] rfl (by kernel_rfl) (by kernel_rfl) (by kernel_rfl)
      (OpenSpec.preRow_of_cond 8 hx (by kernel_rfl) (fun k hk => by cases hk) (by kernel_rfl) (door_met os _))) ?_
  intro W base args ds gs before hval hW _ _ hsz _ _ _
  exact contract H enc W base args ds gs before hval hW hsz
theorem said : Rows.RespFeedsSaid :=
  OpenClaim.holds_of_cond 3 Try.f3 rfl rfl rfl rfl rfl rfl rfl ⟨rfl, rfl, rfl, rfl, rfl⟩ rfl rfl rfl rfl rfl (by kernel_rfl) Try.func3 (by kernel_rfl)
    (of_decide_eq_true (by kernel_rfl)) (by unfold Func.isWrapper; first | (rw [if_pos (by decide +kernel)]; kernel_rfl) | (rw [if_neg (by decide +kernel)]; exact ⟨rfl, rfl⟩))
    (fun os started H enc _ F => by rw [OpenClaim.pre_eq_preRow]; exact lifted os started H enc F)
end lawRespFeeds

end Go.Proofs.Ytkaododohnncnaa
