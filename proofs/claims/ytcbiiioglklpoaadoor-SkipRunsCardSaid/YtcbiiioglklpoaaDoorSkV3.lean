/-
  Package skip: At, First of a list that a call made; the document's own Ahead. Conditions: the list stands.
-/
import Derived.Test.YtcbiiioglklpoaaDoorSkU2
import Derived.Test.YtcbiiioglklpoaaDoorSkV2
namespace Go.Proofs.YtcbiiioglklpoaaDoor
open Go.RowKit

def mbV (x : Mb) : Value := .agg #[.string ⟨x.1.toArray⟩, .int .i64 x.2]
/-- What At answers. -/
def atV (L : List Mb) (rank : Int) : Value := match (if 0 ≤ rank then L[rank.toNat]? else none) with
  | some x => .tuple #[mbV x, .bool true]
  | none => .tuple #[.agg #[.string ⟨#[]⟩, .int .i64 0], .bool false]

section
variable {w : World} {base seed s c h mb N : Nat} {ns : List Nd} {S : Nat → Nat → Value} {g : List UInt8 → Option Nat} {sz : Nat} {L : List Mb}

set_option maxRecDepth 100000 in
set_option maxHeartbeats 8000000 in
theorem lat_any (k : LsAt w base seed s c h mb N ns S g sz L) (hn : L.length ≤ 900000) (hb : ∀ x ∈ L, x.1.length ≤ 1000000000) (rank : Int) :
    Calls Tryd.prog 30 #[.pointer (some ⟨s, 0, none⟩), .int .i64 rank] w fun e w' => e = .returned (atV L rank) ∧ Below w.heap.size w w' := by
  obtain ⟨wa, hwa⟩ : ∃ wa, w.alloc (.cells #[.string ⟨#[]⟩, .int .i64 0] 47) = wa := ⟨_, rfl⟩
  have hba : Below w.heap.size w wa := by rw [← hwa]; exact (Below.refl _ _).alloc (Nat.le_refl _) _
  have sa : wa.heap.size = w.heap.size + 1 := by rw [← hwa]; simp
  have ra := rows2 (w := w) (t := 47) (.string ⟨#[]⟩) (.int .i64 0) (fun i => if i = 0 then .string ⟨#[]⟩ else .int .i64 0) rfl rfl
  rw [hwa] at ra
  have ka := k.below hba
  have HR := Lib.hid (lread_any ka.hd)
  have HAT := Lib.hid (at_any rank wa (lvS_pos seed) (by rw [k.len]; omega) (ka.ck.blk.cell (i := 1) (by omega)) ka.ck.ch)
  have HKA := Lib.hid ka
  have HWA := Lib.hid hwa
  have HBA := Lib.hid hba
  have HSA := Lib.hid sa
  have HRA := Lib.hid ra
  have HBS := Lib.hid hb
  obtain ⟨M, hM⟩ : ∃ M, w.heap.size = M := ⟨_, rfl⟩
  have HMh := Lib.hid hM
  rw [hM] at HBA HSA HRA ⊢
  have hnode : (∃ x : Nd, ns[rank.toNat]? = some x ∧ nodeAt ns rank = .pointer (some ⟨x.1, 0, none⟩) ∧ atV L rank = .tuple #[mbV x.2, .bool true] ∧ x.2 ∈ L) ∨ (nodeAt ns rank = .pointer none ∧ atV L rank = .tuple #[.agg #[.string ⟨#[]⟩, .int .i64 0], .bool false]) := by
    unfold nodeAt atV
    by_cases h0 : 0 ≤ rank
    · rw [if_pos h0, if_pos h0]
      rw [← k.ls, List.getElem?_map]
      cases hq : ns[rank.toNat]? with
      | none => exact Or.inr ⟨rfl, rfl⟩
      | some x => exact Or.inl ⟨x, rfl, rfl, rfl, List.mem_map.2 ⟨x, List.mem_of_getElem? hq, rfl⟩⟩
    · rw [if_neg h0, if_neg h0]
      exact Or.inr ⟨rfl, rfl⟩
  clear k ka hwa hba sa ra hn hb
  rcases hnode with ⟨x, hx, hnd, hat, hmem⟩ | ⟨hnd, hat⟩
  · rw [hnd] at HAT
    rw [hat]
    have HX := Lib.hid hx
    have HCP := Lib.hid (fun W => copied_any ⟨x.2.1.toArray⟩ x.2.2 W (by have := HBS.out x.2 hmem; show x.2.1.toArray.size ≤ _; simp; omega))
    unfold mbV
    obtain ⟨T, hT⟩ : ∃ T : ByteArray, (⟨x.2.1.toArray⟩ : ByteArray) = T := ⟨_, rfl⟩
    obtain ⟨Z, hZ⟩ : ∃ Z, x.2.2 = Z := ⟨_, rfl⟩
    rw [hT, hZ] at HCP ⊢
    have HT := Lib.hid hT
    have HZ := Lib.hid hZ
    clear hnd hat hx hmem hT hZ
    go_enter Tryd.func30, Tryd.ntmps30
    go_wp2_with fail
    rw [HWA.out]
    refine HR.out.mono ?_
    rintro e w1 ⟨rfl, rfl⟩
    go_wp2_with fail
    refine HAT.out.mono ?_
    rintro e w2 ⟨rfl, hb2⟩
    obtain ⟨y0, y1⟩ := (HKA.out.ck.ch.below hb2).cells HX.out
    rw [HT.out] at y0
    rw [HZ.out] at y1
    have HB2 := Lib.hid hb2
    clear hb2
    go_wp2_with fail
    refine (HCP.out _).mono ?_
    rintro e w3 ⟨rfl, hb3⟩
    have hb4 := HB2.out.trans (hb3.mono HB2.out.size)
    have r2 := HRA.out.of_block (hb4.block M HRA.out.lt)
    have c0 := r2.cell (i := 0) (by omega)
    have c1 := r2.cell (i := 1) (by omega)
    have f0 := r2.frozen 0
    have f1 := r2.frozen 1
    have HB4 := Lib.hid (HBA.out.trans (hb4.mono (by have := HSA.out; omega)))
    clear r2 hb3 hb4 y0 y1
    go_wp2
    exact bodyPost_ret (v := .tuple #[.agg #[.string T, .int .i64 Z], .bool true]) (by simp [results, Tryd.results30, go_sem, c0, c1]) rfl ⟨rfl, (HB4.out.setCell (p := ⟨M, 0, none⟩) (Nat.le_refl _) _).setCell (p := ⟨M, 1, none⟩) (Nat.le_refl _) _⟩
  · rw [hnd] at HAT
    rw [hat]
    clear hnd hat
    go_enter Tryd.func30, Tryd.ntmps30
    go_wp2_with fail
    rw [HWA.out]
    refine HR.out.mono ?_
    rintro e w1 ⟨rfl, rfl⟩
    go_wp2_with fail
    refine HAT.out.mono ?_
    rintro e w2 ⟨rfl, hb2⟩
    have r2 := HRA.out.of_block (hb2.block M HRA.out.lt)
    have c0 := r2.cell (i := 0) (by omega)
    have c1 := r2.cell (i := 1) (by omega)
    have f0 := r2.frozen 0
    have f1 := r2.frozen 1
    have HB3 := Lib.hid (HBA.out.trans (hb2.mono (by have := HSA.out; omega)))
    clear r2 hb2
    go_wp2
    exact bodyPost_ret (v := .tuple #[.agg #[.string ⟨#[]⟩, .int .i64 0], .bool false]) (by simp [results, Tryd.results30, go_sem, c0, c1]) rfl ⟨rfl, (HB3.out.setCell (p := ⟨M, 0, none⟩) (Nat.le_refl _) _).setCell (p := ⟨M, 1, none⟩) (Nat.le_refl _) _⟩

set_option maxRecDepth 100000 in
set_option maxHeartbeats 8000000 in
theorem lfirst_any (k : LsAt w base seed s c h mb N ns S g sz L) (hn : L.length ≤ 900000) (lo hi : Bd) :
    Calls Tryd.prog 32 #[.pointer (some ⟨s, 0, none⟩), bdV lo, bdV hi] w fun e w' => e = .returned (if fromM lo L = toM lo hi L then .tuple #[.int .i64 0, .bool false] else .tuple #[.int .i64 (fromM lo L : Nat), .bool true]) ∧ Below w.heap.size w w' := by
  obtain ⟨M, hM⟩ : ∃ M, w.heap.size = M := ⟨_, rfl⟩
  obtain ⟨wa, hwa⟩ : ∃ wa, (w.alloc (.cells #[.int .i64 lo.n, .bool lo.open_, .int .i64 lo.inf] 23)).alloc (.cells #[.int .i64 hi.n, .bool hi.open_, .int .i64 hi.inf] 23) = wa := ⟨_, rfl⟩
  obtain ⟨l1, l2, ba, sa⟩ := two_bounds w lo hi hM hwa
  have hba : Below w.heap.size w wa := by rw [hM]; exact ba
  have HR := Lib.hid (fun (X : World) (hX : Below wa.heap.size wa X) => lread_any ((k.below hba).below hX).hd)
  have HRE := Lib.hid (fun (X : World) (hX : Below wa.heap.size wa X) => reach_any lo hi X (lvS_pos seed) (by rw [k.len]; omega) (((k.below hba).below hX).ck.blk.cell (i := 1) (by omega)) ((k.below hba).below hX).ck.ch k.ls k.ord.1)
  obtain ⟨a, ha⟩ : ∃ a, fromM lo L = a := ⟨_, rfl⟩
  obtain ⟨t, ht⟩ : ∃ t, toM lo hi L = t := ⟨_, rfl⟩
  rw [ha, ht] at HRE ⊢
  unfold bdV at HRE ⊢
  have HK : Hid (∀ X, Below wa.heap.size wa X → Below wa.heap.size wa X ∧ X.cell? ⟨M, 0, none⟩ = some (.int .i64 lo.n) ∧ X.cell? ⟨M, 1, none⟩ = some (.bool lo.open_) ∧ X.cell? ⟨M, 2, none⟩ = some (.int .i64 lo.inf) ∧ X.cell? ⟨M + 1, 0, none⟩ = some (.int .i64 hi.n) ∧ X.cell? ⟨M + 1, 1, none⟩ = some (.bool hi.open_) ∧ X.cell? ⟨M + 1, 2, none⟩ = some (.int .i64 hi.inf)) := fun X hX => by
    obtain ⟨a1, a2, a3⟩ := l1.below (by omega) hX
    obtain ⟨a4, a5, a6⟩ := l2.below (by omega) hX
    exact ⟨hX, a1, a2, a3, a4, a5, a6⟩
  have H0 : Hid (Below wa.heap.size wa wa) := Below.refl _ _
  have HBM : Hid (∀ X, Below wa.heap.size wa X → Below M w X) := fun X hX => ba.trans (hX.mono (by omega))
  have HWA := Lib.hid hwa
  have HMh := Lib.hid hM
  rw [hM]
  clear hwa l1 l2 ba sa hba k ha ht hn
  by_cases hat : a = t
  · subst hat
    rw [if_pos rfl]
    go_enter Tryd.func32, Tryd.ntmps32
    go_wp2_with fail
    rw [HWA.out]
    go_region_held3 (fun X => Below wa.heap.size wa X ∧ X.cell? ⟨M, 0, none⟩ = some (.int .i64 lo.n) ∧ X.cell? ⟨M, 1, none⟩ = some (.bool lo.open_) ∧ X.cell? ⟨M, 2, none⟩ = some (.int .i64 lo.inf) ∧ X.cell? ⟨M + 1, 0, none⟩ = some (.int .i64 hi.n) ∧ X.cell? ⟨M + 1, 1, none⟩ = some (.bool hi.open_) ∧ X.cell? ⟨M + 1, 2, none⟩ = some (.int .i64 hi.inf))
      (first | exact HK.out _ HC2.out | exact HK.out _ HC1.out | exact HK.out _ H0.out.drew | exact HK.out _ H0.out)
      (first
      | (have qq := HC1; clear qq; go_at_call 59; refine Calls.mono (HRE.out _ HC1.out) ?_; rintro en x2 ⟨rfl, hb⟩; have HC2 : Hid (Below wa.heap.size wa x2) := bup HC1.out hb; clear hb)
      | (go_at_call 50; refine Calls.mono (HR.out _ (by first | exact H0.out | exact H0.out.drew)) ?_; rintro en x1 ⟨rfl, hx⟩; have HC1 : Hid (Below wa.heap.size wa x1) := (by first | exact hx ▸ H0.out | exact hx ▸ H0.out.drew); clear hx))
    all_goals
      go_wp2
      go_ret2
      exact ⟨rfl, HBM.out _ HC2.out⟩
  · rw [if_neg hat]
    have hne : ¬ (a : Int) = (t : Int) := by omega
    clear hat
    go_enter Tryd.func32, Tryd.ntmps32
    go_wp2_with fail
    rw [HWA.out]
    go_region_held3 (fun X => Below wa.heap.size wa X ∧ X.cell? ⟨M, 0, none⟩ = some (.int .i64 lo.n) ∧ X.cell? ⟨M, 1, none⟩ = some (.bool lo.open_) ∧ X.cell? ⟨M, 2, none⟩ = some (.int .i64 lo.inf) ∧ X.cell? ⟨M + 1, 0, none⟩ = some (.int .i64 hi.n) ∧ X.cell? ⟨M + 1, 1, none⟩ = some (.bool hi.open_) ∧ X.cell? ⟨M + 1, 2, none⟩ = some (.int .i64 hi.inf))
      (first | exact HK.out _ HC2.out | exact HK.out _ HC1.out | exact HK.out _ H0.out.drew | exact HK.out _ H0.out)
      (first
      | (have qq := HC1; clear qq; go_at_call 59; refine Calls.mono (HRE.out _ HC1.out) ?_; rintro en x2 ⟨rfl, hb⟩; have HC2 : Hid (Below wa.heap.size wa x2) := bup HC1.out hb; clear hb)
      | (go_at_call 50; refine Calls.mono (HR.out _ (by first | exact H0.out | exact H0.out.drew)) ?_; rintro en x1 ⟨rfl, hx⟩; have HC1 : Hid (Below wa.heap.size wa x1) := (by first | exact hx ▸ H0.out | exact hx ▸ H0.out.drew); clear hx))
    all_goals
      go_wp2
      go_ret2
      exact ⟨rfl, HBM.out _ HC2.out⟩

end

def aheadB (a b : Mb) : Bool := decide (ahd a b)

end Go.Proofs.YtcbiiioglklpoaaDoor
