/-
  The statement RespPieces of layer 2: for every input it answers true, and each argument reads behind the call as it read before. No condition.
-/
import Derived.Test.YtmbgonldbhpanaaRpC5
import Derived.Test.YtmbgonldbhpanaaRpC6
import Derived.Test.YtmbgonldbhpanaaBase
import Derived.Test.YtmbgonldbhpanaaArgs
namespace Go.Proofs.Ytmbgonldbhpanaa
open Go.ChangeShapes Go.WideShapes Go.ChangeAt Go.RowKit
open Go.WideMaps Go.WideElems
open Go.ChangeMaps (setBlock shut_map_nil open_string shut_string keptBut_setBlock frozen?_setBlock heap_setBlock_same)

namespace lawRespPieces
theorem contract (H : Type) (enc : TypeId × Value → H) (W : World) (base : Nat) (args : Array Value) (ds gs : List (DataW H)) (before : List MemPlace)
    (hval : ∀ (j : Nat) t v, Try.f5.params[j]? = some t → args[j]? = some v → Value.okWide Try.prog W .any base t v)
    (hW : DataW.Whole enc Try.prog Try.f5.params.toList Rows.respPiecesSpec.vars false W args.toList ds gs before) (hsz0 : (DataW.weightsEach Try.prog (Try.f5.params.toList ++ Rows.respPiecesSpec.plain.varTypes Try.prog) (ds ++ gs)).all (· ≤ reachBytes) = true) :
    Calls Try.prog 5 args W fun e W' => ∃ v, e = .returned v ∧ Rows.respPiecesSpec.post enc Try.prog Try.f5 false true false false W args v W' := by
  have hW' := hW
  have hsz := hsz0
  clear hsz0
  obtain ⟨p, q, hA0, hV, rfl, hfz, hnd⟩ := hW
  have hA : DataW.TrodAll enc Try.prog W 0 (fun _ => true) true Try.f5.params.toList args.toList ds p := hA0
  rw [Try.params5] at hA hval hsz
  obtain ⟨v0, vs0, d0, ds0, p0, q0, hargs, rfl, rfl, h0, r0⟩ := trodAll_cons hA
  obtain ⟨v1, vs1, d1, ds1, p1, q1, rfl, rfl, rfl, h1, r1⟩ := trodAll_cons r0
  obtain ⟨rfl, rfl, rfl⟩ := trodAll_nil r1
  obtain rfl : args = #[v0, v1] := by cases args; simp_all
  obtain ⟨rfl, rfl⟩ := trodVars_none hV
  clear hA0
  simp only [List.append_nil] at hW'
  have hB0 : ∃ (A : Option Addr) (cap : Nat) (l : List UInt8) (b off : Nat), v0 = .slice A l.length cap ∧ l.length ≤ cap ∧ cap ≤ 140737488351232 ∧ (l ≠ [] → A = some ⟨b, off, none⟩ ∧ b < W.heap.size) ∧ BytesAt W b off l := by
    clear hW'
    obtain ⟨a0, len, cap, rfl⟩ := okWide_slice Try.underlying22 (hval 0 22 v0 rfl rfl)
    obtain ⟨fuel, hf⟩ := h0
    rcases open_ints Try.underlying22 Try.underlying5 (by kernel_rfl) hf with ⟨hcs, hx⟩ | ⟨a, len', cap', zs, hcs, _, hl, hm, hz, hx, hcell, hwz⟩
    · simp [Value.cells] at hcs
      obtain ⟨rfl, rfl, rfl⟩ := hcs
      exact ⟨none, 0, [], 0, 0, rfl, Nat.le_refl _, by omega, fun h => absurd rfl h, bytes_nil _ _ _⟩
    · simp [Value.cells] at hcs
      obtain ⟨rfl, rfl, rfl⟩ := hcs
      simp only [Prod.mk.injEq] at hx
      obtain ⟨rfl, rfl⟩ := hx
      have hz : zs.length = cap := hz
      have hr : cap * 1 ≤ 140737488351232 := by
        have := sized_slice hsz (j := 0) (t := 22) (e := 5) rfl rfl Try.underlying22
        rw [show Try.prog.bytesOf 5 = 1 by kernel_rfl] at this
        simp only [lits, List.length_map, List.length_take, List.length_drop] at this
        have hrb : reachBytes = 140737488351232 := rfl
        rw [hrb, show min len zs.length + (zs.length - len) = cap by omega] at this
        exact this
      by_cases hz0 : len = 0
      · subst hz0
        exact ⟨some a, cap, [], 0, 0, rfl, Nat.zero_le _, by omega, fun h => absurd rfl h, bytes_nil _ _ _⟩
      · obtain ⟨b0, off0, rfl, hc⟩ := ints_at hcell (by omega)
        have hb0 : b0 < W.heap.size := World.block_lt_of_cell? W _ (hc 0 (by omega))
        obtain ⟨l0, hl0, hc0⟩ := bytes_arg (len := len) (by omega) hwz hc
        subst hl0
        exact ⟨_, cap, l0, b0, off0, rfl, hl, by omega, fun _ => ⟨rfl, hb0⟩, hc0⟩
  have hB1 : ∃ (A : Option Addr) (cap : Nat) (l : List UInt8) (b off : Nat), v1 = .slice A l.length cap ∧ l.length ≤ cap ∧ cap ≤ 140737488351232 ∧ (l ≠ [] → A = some ⟨b, off, none⟩ ∧ b < W.heap.size) ∧ BytesAt W b off l := by
    clear hW'
    obtain ⟨a0, len, cap, rfl⟩ := okWide_slice Try.underlying22 (hval 1 22 v1 rfl rfl)
    obtain ⟨fuel, hf⟩ := h1
    rcases open_ints Try.underlying22 Try.underlying5 (by kernel_rfl) hf with ⟨hcs, hx⟩ | ⟨a, len', cap', zs, hcs, _, hl, hm, hz, hx, hcell, hwz⟩
    · simp [Value.cells] at hcs
      obtain ⟨rfl, rfl, rfl⟩ := hcs
      exact ⟨none, 0, [], 0, 0, rfl, Nat.le_refl _, by omega, fun h => absurd rfl h, bytes_nil _ _ _⟩
    · simp [Value.cells] at hcs
      obtain ⟨rfl, rfl, rfl⟩ := hcs
      simp only [Prod.mk.injEq] at hx
      obtain ⟨rfl, rfl⟩ := hx
      have hz : zs.length = cap := hz
      have hr : cap * 1 ≤ 140737488351232 := by
        have := sized_slice hsz (j := 1) (t := 22) (e := 5) rfl rfl Try.underlying22
        rw [show Try.prog.bytesOf 5 = 1 by kernel_rfl] at this
        simp only [lits, List.length_map, List.length_take, List.length_drop] at this
        have hrb : reachBytes = 140737488351232 := rfl
        rw [hrb, show min len zs.length + (zs.length - len) = cap by omega] at this
        exact this
      by_cases hz0 : len = 0
      · subst hz0
        exact ⟨some a, cap, [], 0, 0, rfl, Nat.zero_le _, by omega, fun h => absurd rfl h, bytes_nil _ _ _⟩
      · obtain ⟨b0, off0, rfl, hc⟩ := ints_at hcell (by omega)
        have hb0 : b0 < W.heap.size := World.block_lt_of_cell? W _ (hc 0 (by omega))
        obtain ⟨l0, hl0, hc0⟩ := bytes_arg (len := len) (by omega) hwz hc
        subst hl0
        exact ⟨_, cap, l0, b0, off0, rfl, hl, by omega, fun _ => ⟨rfl, hb0⟩, hc0⟩
  obtain ⟨A0, cap0, l0, b0, off0, rfl, hl0, hm0, hn0, hc0⟩ := hB0
  obtain ⟨A1, cap1, l1, b1, off1, rfl, _, _, hn1, hc1⟩ := hB1
  by_cases hz : l0 = []
  · subst hz
    simp only [List.length_nil] at hW' ⊢
    refine (respPieces_none A0 A1 cap0 _ cap1 W).mono fun e W' ⟨he, hb⟩ => ?_
    exact ⟨_, he, law_post (tb := 4) laidOut (by kernel_rfl) rfl rfl Try.underlying4 rfl hW' hb⟩
  · obtain ⟨rfl, hb0⟩ := hn0 hz
    refine (respPieces_some b0 off0 cap0 b1 off1 cap1 A1 l0 l1 W hl0 (by omega) hb0 hc0 (fun h => (hn1 h).2) hc1 (fun h => (hn1 h).1)).mono fun e W' ⟨he, hb⟩ => ?_
    exact ⟨_, he, law_post (tb := 4) laidOut (by kernel_rfl) rfl rfl Try.underlying4 rfl hW' hb⟩

theorem reads (os : Os) {H : Type} (enc : TypeId × Value → H) : ∃ places, DataW.whole enc Try.prog ((World.doorLaid Try.prog 0 os).forCall (fun _ _ => 0) ⟨#[], #[Value.slice none 0 0, Value.slice none 0 0], []⟩).memory Try.f5.params.toList Rows.respPiecesSpec.vars false #[Value.slice none 0 0, Value.slice none 0 0].toList 8 = some ([.nil, .nil], [], places) :=
  ⟨[], by kernel_rfl⟩
theorem door_met (os : Os) (args : Array Value) : laidMetH Try.prog Rows.respPiecesRow.laid ((World.doorLaid Try.prog 0 os).forCall (fun _ _ => 0) ⟨#[], args, []⟩).memory :=
  laidMetH_nil _ _
set_option maxRecDepth 100000 in
theorem lifted (os : Os) (started : os.Started) (H : Type) (enc : TypeId × Value → H) (F : Stop.Interp) :
    ReturnsInHanded {} Try.checked os 5 .any ((OpenSpec.ofChange Rows.respPiecesSpec).preRow enc Try.prog Try.f5 Rows.respPiecesRow.domain false Rows.respPiecesRow.laid) (((OpenSpec.ofChange Rows.respPiecesSpec).at F).post enc Try.prog Try.f5 false true false false) := by
  obtain ⟨places, hx⟩ := reads os enc
  refine returnsInHanded_of_row (C := Try.checked) (s := OpenSpec.ofChange Rows.respPiecesSpec) ownGodebug started (by kernel_rfl) Try.func5
    (witness_row_atRef (enc := enc) (C := Try.checked) false (World.doorLaid Try.prog 0 os) #[Value.slice none 0 0, Value.slice none 0 0] rfl (by kernel_rfl) (by kernel_rfl) (by kernel_rfl)
      (OpenSpec.preRow_of_cond 8 hx (by kernel_rfl) (fun k hk => by cases hk) (by kernel_rfl) (door_met os _))) ?_
  intro W base args ds gs before hval hW _ _ hsz _ _ _
  exact contract H enc W base args ds gs before hval hW hsz
theorem said : Rows.RespPiecesSaid :=
  OpenClaim.holds_of_cond 5 Try.f5 rfl rfl rfl rfl rfl rfl rfl ⟨rfl, rfl, rfl, rfl, rfl⟩ rfl rfl rfl rfl rfl (by kernel_rfl) Try.func5 (by kernel_rfl)
    (of_decide_eq_true (by kernel_rfl)) (by unfold Func.isWrapper; first | (rw [if_pos (by decide +kernel)]; kernel_rfl) | (rw [if_neg (by decide +kernel)]; exact ⟨rfl, rfl⟩))
    (fun os started H enc _ F => by rw [OpenClaim.pre_eq_preRow]; exact lifted os started H enc F)
end lawRespPieces

end Go.Proofs.Ytmbgonldbhpanaa
