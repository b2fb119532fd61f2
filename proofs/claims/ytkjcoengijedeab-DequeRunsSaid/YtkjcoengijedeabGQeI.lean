/-
  Package deque's ring (values: int): the walks of what puts a value in at a place counted from an end, and of what takes one out. Conditions: what the end's two functions do is handed in.
-/
import Derived.Test.YtkjcoengijedeabGQcI
import Derived.LoopTactic
namespace Go.Proofs.Ytkjcoengijedeab
open Go.RowKit

abbrev KDI : Kq Int := ⟨3, 71, 39, (Value.int .i64)⟩

/-- What the place's function of an end does: the head hd, the box B that holds R. -/
def SlotOfI (FS : FuncId) (B R g k : Nat) (hd : Nat → Value) (P : Nat → Nat) : Prop :=
  ∀ (X : World) (i : Int) (p : Nat), X.rowIs R 71 3 hd → X.cell? ⟨B, 0, none⟩ = some (.pointer (some ⟨R, 0, none⟩)) → i = p → p < k →
    Calls Try.prog FS #[.int .i64 i, .pointer (some ⟨B, 0, none⟩)] X fun e X' => e = .returned (.pointer (some ⟨g, P p, none⟩)) ∧ ∃ n, X' = X.drewN n

/-- What the moving function of an end does: of the head hd it makes hd2. -/
def MoveOfI (FM : FuncId) (by_ : Int) (B R : Nat) (hd hd2 : Nat → Value) : Prop :=
  ∀ (X : World), X.rowIs R 71 3 hd → X.cell? ⟨B, 0, none⟩ = some (.pointer (some ⟨R, 0, none⟩)) →
    Calls Try.prog FM #[.int .i64 by_, .pointer (some ⟨B, 0, none⟩)] X fun e X' => e = .returned (.tuple #[]) ∧ X'.rowIs R 71 3 hd2 ∧ Only (· = R) X X'

set_option maxRecDepth 100000 in
set_option maxHeartbeats 8000000 in
theorem enterI_f1 (args : Array Value) (w : World) : (callFunc 73 args).run Try.prog w = .ok (.enter 73 args) w := by simp [callFunc, go_sem, Try.func73, Try.f73]

set_option maxRecDepth 100000 in
set_option maxHeartbeats 8000000 in
theorem endInsI_any {FS FM : FuncId} {B R g k N c : Nat} {hd hd2 : Nat → Value} {P : Nat → Nat} {S : Nat → Value} {E : List Int} {place : Nat} {v : Int} (w : World)
    (eS : ∀ args w, (callFunc FS args).run Try.prog w = .ok (.enter FS args) w) (eM : ∀ args w, (callFunc FM args).run Try.prog w = .ok (.enter FM args) w) (hS : SlotOfI FS B R g (E.length + 1) hd2 P) (hM : MoveOfI FM 1 B R hd hd2) (hk : E.length = k) (hk2 : k ≤ 1000000) (hp : place ≤ k)
    (hhd : w.rowIs R 71 3 hd) (hB : w.cell? ⟨B, 0, none⟩ = some (.pointer (some ⟨R, 0, none⟩))) (hBR : B ≠ R) (hBg : B ≠ g) (hrow : w.rowIs g 3 c S) (hNc : N ≤ c)
    (hinv : InsInv (Value.int .i64) S P E 0) (hP : ∀ a b, a ≤ E.length → b ≤ E.length → P a = P b → a = b) (hPN : ∀ a, a ≤ E.length → P a < N) :
    Calls Try.prog 59 #[.agg #[.func (.func FS) #[] #[.pointer (some ⟨B, 0, none⟩)], .func (.func FM) #[] #[.pointer (some ⟨B, 0, none⟩)]], .int .i64 place, (Value.int .i64) v] w fun e w' => e = .returned (.tuple #[]) ∧
      w'.rowIs R 71 3 hd2 ∧ ∃ S', w'.rowIs g 3 c S' ∧ (∀ i x, (insAt E place v)[i]? = some x → S' (P i) = (Value.int .i64) x) ∧ Only (fun k => k = R ∨ k = g) w w' := by
  have HS := Lib.hid hS
  have HM := Lib.hid hM
  have HINV := Lib.hid hinv
  have HP := Lib.hid hP
  have HPN := Lib.hid hPN
  have HK := Lib.hid hk
  have HHD := Lib.hid hhd
  have HROW := Lib.hid hrow
  have HB := Lib.hid hB
  have hRg : R ≠ g := fun e => by
    subst e
    obtain ⟨c1, h1, _⟩ := hhd
    obtain ⟨c2, h2, _⟩ := hrow
    rw [h1] at h2
    simp only [Option.some.injEq, Obj.cells.injEq] at h2
    exact absurd h2.2.1 (by decide)
  have hRl := hhd.lt
  have hgl := hrow.lt
  have hBl := World.block_lt_of_cell? w _ hB
  obtain ⟨M, hM0⟩ : ∃ M, w.heap.size = M := ⟨_, rfl⟩
  rw [hM0] at hRl hgl hBl
  obtain ⟨wa, hwa⟩ : ∃ wa, w.alloc (.cells #[.func (.func FS) #[] #[.pointer (some ⟨B, 0, none⟩)], .func (.func FM) #[] #[.pointer (some ⟨B, 0, none⟩)]] 91) = wa := ⟨_, rfl⟩
  have HBA : Hid (Below w.heap.size w wa) := by unfold Hid; rw [← hwa]; exact (Below.refl _ _).alloc (Nat.le_refl _) _
  have HBLK : Hid (∀ X : World, X.heap[M]? = wa.heap[M]? → X.cell? ⟨M, 0, none⟩ = some (.func (.func FS) #[] #[.pointer (some ⟨B, 0, none⟩)])) := fun X hX => by
    have q : wa.heap[M]? = some (.cells #[.func (.func FS) #[] #[.pointer (some ⟨B, 0, none⟩)], .func (.func FM) #[] #[.pointer (some ⟨B, 0, none⟩)]] 91 (0, 0)) := by rw [← hM0, ← hwa]; exact heap_alloc_new w _
    have hq := hX.trans q
    simp [World.cell?, hq]
  have HSZ : Hid (wa.heap.size = M + 1) := by unfold Hid; rw [← hwa, ← hM0]; simp
  have HRa : Hid (wa.rowIs R 71 3 hd) := hhd.of_block (HBA.out.block R (by omega))
  have HBa : Hid (wa.cell? ⟨B, 0, none⟩ = some (.pointer (some ⟨R, 0, none⟩))) := (HBA.out.cell (p := ⟨B, 0, none⟩) (by rw [hM0]; exact hBl)).trans hB
  have HGa : Hid (wa.rowIs g 3 c S) := hrow.of_block (HBA.out.block g (by omega))
  have HWA := Lib.hid hwa
  have HM0 := Lib.hid hM0
  clear hS hM hinv hP hPN hk hhd hrow hB hwa hM0
  go_enter Try.func59, Try.ntmps59
  go_wp2_with fail
  rw [HWA.out, HM0.out]
  refine (HM.out wa HRa.out HBa.out).mono ?_
  rintro e w2 ⟨rfl, hr2, ho2⟩
  have HR2 := Lib.hid hr2
  have HO2 : Hid (Only (fun k => k = R ∨ k = g) wa w2) := ho2.mono (fun k hk => Or.inl hk)
  have HG2 : Hid (w2.rowIs g 3 c S) := ho2.row HGa.out (fun e => hRg e.symm)
  clear hr2 ho2
  go_wp2_with fail
  go_loopw [6, 11] (fun _ iv wr => ∃ (j : Nat) (Sj : Nat → Value), iv = .int .i64 j ∧ j ≤ place ∧ InsInv (Value.int .i64) Sj P E j ∧ wr.rowIs g 3 c Sj ∧ wr.rowIs R 71 3 hd2 ∧ Only (fun k => k = R ∨ k = g) wa wr) (fun _ iv _ => place - (intOf iv).toNat)
  case atStart => exact ⟨0, S, rfl, Nat.zero_le _, HINV.out, HG2.out, HR2.out, HO2.out⟩
  case round =>
    obtain ⟨j, Sj, rfl, hj, hinv, hg, hr, ho⟩ := hrel
    have HG := Lib.hid hg
    have HR := Lib.hid hr
    have HO := Lib.hid ho
    have HI := Lib.hid hinv
    have HBr : Hid (wr.cell? ⟨B, 0, none⟩ = some (.pointer (some ⟨R, 0, none⟩))) := ho.cell HBa.out (fun e => by rcases e with e | e <;> simp_all)
    have e0 : wr.cell? ⟨M, 0, none⟩ = some (.func (.func FS) #[] #[.pointer (some ⟨B, 0, none⟩)]) := HBLK.out wr (ho.block M (by have := HSZ.out; omega) (by omega))
    clear hg hr ho hinv
    by_cases hlt : j < place
    · obtain ⟨y, hy⟩ : ∃ y, E[j]? = some y := ⟨_, List.getElem?_eq_getElem (by rw [HK.out]; omega)⟩
      have HS0 := Lib.hid (fun X h1 h2 => HS.out X (j : Int) j h1 h2 rfl (by rw [HK.out]; omega))
      have HS1 := Lib.hid (fun X h1 h2 => HS.out X ((j : Int) + 1) (j + 1) h1 h2 (by omega) (by rw [HK.out]; omega))
      have HST := Lib.hid (ins_step HI.out hy HP.out)
      have ec := HG.out.cell (i := P (j + 1)) (Nat.lt_of_lt_of_le (HPN.out (j + 1) (by rw [HK.out]; omega)) hNc)
      rw [ins_get HI.out hy] at ec
      have et := HG.out.cell (i := P j) (Nat.lt_of_lt_of_le (HPN.out j (by rw [HK.out]; omega)) hNc)
      have ef := HG.out.frozen (P j)
      have hne : P (j + 1) ≠ P j := fun e => by have := HP.out _ _ (by rw [HK.out]; omega) (by rw [HK.out]; omega) e; omega
      have HMg : M ≠ g := by omega
      obtain ⟨p0, hp0⟩ : ∃ p, P j = p := ⟨_, rfl⟩
      obtain ⟨p1, hp1⟩ : ∃ p, P (j + 1) = p := ⟨_, rfl⟩
      obtain ⟨old, hold⟩ : ∃ u, Sj p0 = u := ⟨_, rfl⟩
      rw [hp0] at HS0 HST et ef hne
      rw [hp1] at HS1 ec hne
      rw [hold] at et
      have HC : Hid (wr.cell? ⟨M, 0, none⟩ = some (.func (.func FS) #[] #[.pointer (some ⟨B, 0, none⟩)]) ∧ wr.cell? ⟨g, p1, none⟩ = some ((Value.int .i64) y)) := ⟨e0, ec⟩
      have HC2 : Hid (∀ n, ((wr.drewN n).setCell ⟨g, p0, none⟩ ((Value.int .i64) y)).cell? ⟨M, 0, none⟩ = some (.func (.func FS) #[] #[.pointer (some ⟨B, 0, none⟩)]) ∧ ((wr.drewN n).setCell ⟨g, p0, none⟩ ((Value.int .i64) y)).cell? ⟨g, p1, none⟩ = some ((Value.int .i64) y)) := fun n =>
        ⟨(World.cell?_setCell_other (wr.drewN n) _ _ _ (fun e => HMg (by injection e with e; exact e.symm))).trans e0, (World.cell?_setCell_other (wr.drewN n) _ _ _ (fun e => hne (by injection e with _ e; exact e.symm))).trans ec⟩
      have hwj : IntKind.i64.wrap ((j : Int) + 1) = (j : Int) + 1 := IntWalk.i64_in _ (by omega)
      have hjp : (j : Int) < (place : Int) := by omega
      clear hy hp0 hp1 hold hne HMg
      go_wp2_with fail
      go_region_held3 (fun X => X.cell? ⟨M, 0, none⟩ = some (.func (.func FS) #[] #[.pointer (some ⟨B, 0, none⟩)]) ∧ X.cell? ⟨g, p1, none⟩ = some ((Value.int .i64) y)) (first | exact HC.out | exact HC2.out _)
        (first
          | (refine Calls.mono (HS0.out _ ?_ ?_) ?_; exact HR.out; exact HBr.out; rintro en w5 ⟨rfl, n5, rfl⟩)
          | (refine Calls.mono (HS1.out _ ?_ ?_) ?_; exact HR.out; exact HBr.out; rintro en w5 ⟨rfl, n6, rfl⟩))
      all_goals
        go_wp2
        go_roundw
        case rel => exact ⟨j + 1, _, by go_num, by omega, HST.out, World.rowIs.set (w := wr.drewN _) HG.out p0 _, World.rowIs.setOther (w := wr.drewN _) HR.out hRg _, (HO.out.trans (Only.drewN _ _ _)).set (q := ⟨g, p0, none⟩) (Or.inr rfl) _⟩
        case measure => simp only [intOf]; omega
    · obtain rfl : j = place := by omega
      have HS0 := Lib.hid (fun X h1 h2 => HS.out X (j : Int) j h1 h2 rfl (by rw [HK.out]; omega))
      have HST := Lib.hid (ins_end (v := v) HI.out (by rw [HK.out]; exact hp) HP.out)
      have et := HG.out.cell (i := P j) (Nat.lt_of_lt_of_le (HPN.out j (by rw [HK.out]; omega)) hNc)
      have ef := HG.out.frozen (P j)
      obtain ⟨p0, hp0⟩ : ∃ p, P j = p := ⟨_, rfl⟩
      obtain ⟨old, hold⟩ : ∃ u, Sj p0 = u := ⟨_, rfl⟩
      rw [hp0] at HS0 HST et ef
      rw [hold] at et
      clear hp0 hold
      go_wp2_with fail
      refine Calls.mono (HS0.out _ HR.out HBr.out) ?_
      rintro en w5 ⟨rfl, n5, rfl⟩
      go_wp2
      go_end0
      have HOE : Only (fun k => k = R ∨ k = g) wa ((wr.drewN n5).setCell ⟨g, p0, none⟩ ((Value.int .i64) v)) := (HO.out.trans (Only.drewN _ _ _)).set (q := ⟨g, p0, none⟩) (Or.inr rfl) _
      exact ⟨rfl, World.rowIs.setOther (w := wr.drewN _) HR.out hRg _, _, World.rowIs.set (w := wr.drewN _) HG.out p0 _, HST.out, (Only.of_below HBA.out).trans HOE⟩

set_option maxRecDepth 100000 in
set_option maxHeartbeats 8000000 in
/-- A value at a place counted from an end is taken out. -/
theorem endDelI_any {FS FM : FuncId} {B R g k N c : Nat} {hd hd2 : Nat → Value} {P : Nat → Nat} {S : Nat → Value} {E : List Int} {place : Nat} {v : Int} (w : World)
    (eS : ∀ args w, (callFunc FS args).run Try.prog w = .ok (.enter FS args) w) (eM : ∀ args w, (callFunc FM args).run Try.prog w = .ok (.enter FM args) w) (hS : SlotOfI FS B R g E.length hd P) (hM : MoveOfI FM (-1) B R hd hd2) (hk : E.length = k) (hk2 : k ≤ 1000000) (hp : place < k) (hv : E[place]? = some v)
    (hhd : w.rowIs R 71 3 hd) (hB : w.cell? ⟨B, 0, none⟩ = some (.pointer (some ⟨R, 0, none⟩))) (hBR : B ≠ R) (hBg : B ≠ g) (hrow : w.rowIs g 3 c S) (hNc : N ≤ c)
    (hinv : ∀ i x, E[i]? = some x → S (P i) = (Value.int .i64) x) (hP : ∀ a b, a < E.length → b < E.length → P a = P b → a = b) (hPN : ∀ a, a < E.length → P a < N) :
    Calls Try.prog 62 #[.agg #[.func (.func FS) #[] #[.pointer (some ⟨B, 0, none⟩)], .func (.func FM) #[] #[.pointer (some ⟨B, 0, none⟩)]], .int .i64 place] w fun e w' => e = .returned ((Value.int .i64) v) ∧
      w'.rowIs R 71 3 hd2 ∧ ∃ S', w'.rowIs g 3 c S' ∧ (∀ i x, (delAt E place)[i]? = some x → S' (P (i + 1)) = (Value.int .i64) x) ∧ Only (fun k => k = R ∨ k = g) w w' := by
  have HS := Lib.hid hS
  have HM := Lib.hid hM
  have HP := Lib.hid hP
  have HPN := Lib.hid hPN
  have HK := Lib.hid hk
  have HROW := Lib.hid hrow
  have HINV : Hid (DelInv (Value.int .i64) S P E place place) := fun m x hx hm => by rw [if_pos (by omega)]; exact hinv m x hx
  have HVE : Hid (S (P place) = (Value.int .i64) v) := hinv place v hv
  have hRg : R ≠ g := fun e => by
    subst e
    obtain ⟨c1, h1, _⟩ := hhd
    obtain ⟨c2, h2, _⟩ := hrow
    rw [h1] at h2
    simp only [Option.some.injEq, Obj.cells.injEq] at h2
    exact absurd h2.2.1 (by decide)
  have hRl := hhd.lt
  have hgl := hrow.lt
  have hBl := World.block_lt_of_cell? w _ hB
  obtain ⟨M, hM0⟩ : ∃ M, w.heap.size = M := ⟨_, rfl⟩
  rw [hM0] at hRl hgl hBl
  obtain ⟨wa, hwa⟩ : ∃ wa, w.alloc (.cells #[.func (.func FS) #[] #[.pointer (some ⟨B, 0, none⟩)], .func (.func FM) #[] #[.pointer (some ⟨B, 0, none⟩)]] 91) = wa := ⟨_, rfl⟩
  have HBA : Hid (Below w.heap.size w wa) := by unfold Hid; rw [← hwa]; exact (Below.refl _ _).alloc (Nat.le_refl _) _
  have HBLK : Hid (∀ X : World, X.heap[M]? = wa.heap[M]? → X.cell? ⟨M, 0, none⟩ = some (.func (.func FS) #[] #[.pointer (some ⟨B, 0, none⟩)]) ∧ X.cell? ⟨M, 1, none⟩ = some (.func (.func FM) #[] #[.pointer (some ⟨B, 0, none⟩)])) := fun X hX => by
    have q : wa.heap[M]? = some (.cells #[.func (.func FS) #[] #[.pointer (some ⟨B, 0, none⟩)], .func (.func FM) #[] #[.pointer (some ⟨B, 0, none⟩)]] 91 (0, 0)) := by rw [← hM0, ← hwa]; exact heap_alloc_new w _
    have hq := hX.trans q
    exact ⟨by simp [World.cell?, hq], by simp [World.cell?, hq]⟩
  have HSZ : Hid (wa.heap.size = M + 1) := by unfold Hid; rw [← hwa, ← hM0]; simp
  have HRa : Hid (wa.rowIs R 71 3 hd) := hhd.of_block (HBA.out.block R (by omega))
  have HBa : Hid (wa.cell? ⟨B, 0, none⟩ = some (.pointer (some ⟨R, 0, none⟩))) := (HBA.out.cell (p := ⟨B, 0, none⟩) (by rw [hM0]; exact hBl)).trans hB
  have HGa : Hid (wa.rowIs g 3 c S) := hrow.of_block (HBA.out.block g (by omega))
  have HWA := Lib.hid hwa
  have HM0 := Lib.hid hM0
  have HSP := Lib.hid (fun X h1 h2 => HS.out X (place : Int) place h1 h2 rfl (by rw [HK.out]; exact hp))
  have ep := HGa.out.cell (i := P place) (Nat.lt_of_lt_of_le (HPN.out place (by rw [HK.out]; exact hp)) hNc)
  rw [HVE.out] at ep
  obtain ⟨pp, hpp⟩ : ∃ p, P place = p := ⟨_, rfl⟩
  rw [hpp] at HSP ep
  have HEP := Lib.hid ep
  clear hS hM hinv hP hPN hk hhd hrow hB hwa hM0 hpp ep hv
  go_enter Try.func62, Try.ntmps62
  go_wp2_with fail
  rw [HWA.out, HM0.out]
  refine Calls.mono (HSP.out wa HRa.out HBa.out) ?_
  rintro e w2 ⟨rfl, n2, rfl⟩
  have ep : wa.cell? ⟨g, pp, none⟩ = some ((Value.int .i64) v) := HEP.out
  go_wp2_with fail
  go_loopw [6] (fun iv wr => ∃ (j : Nat) (Sj : Nat → Value), iv = .int .i64 j ∧ j ≤ place ∧ DelInv (Value.int .i64) Sj P E place j ∧ wr.rowIs g 3 c Sj ∧ wr.rowIs R 71 3 hd ∧ Only (fun k => k = R ∨ k = g) wa wr) (fun iv _ => (intOf iv).toNat)
  case atStart => exact ⟨place, S, rfl, Nat.le_refl _, HINV.out, HGa.out, HRa.out, Only.drewN _ _ _⟩
  case round =>
    obtain ⟨j, Sj, rfl, hj, hinv, hg, hr, ho⟩ := hrel
    have HG := Lib.hid hg
    have HR := Lib.hid hr
    have HO := Lib.hid ho
    have HI := Lib.hid hinv
    have HBr : Hid (wr.cell? ⟨B, 0, none⟩ = some (.pointer (some ⟨R, 0, none⟩))) := ho.cell HBa.out (fun e => by rcases e with e | e <;> simp_all)
    obtain ⟨e0, e1⟩ := HBLK.out wr (ho.block M (by have := HSZ.out; omega) (by omega))
    clear hg hr ho hinv ep
    by_cases hlt : 0 < j
    · obtain ⟨y, hy⟩ : ∃ y, E[j - 1]? = some y := ⟨_, List.getElem?_eq_getElem (by rw [HK.out]; omega)⟩
      have HS0 := Lib.hid (fun X h1 h2 => HS.out X (j : Int) j h1 h2 rfl (by rw [HK.out]; omega))
      have HS1 := Lib.hid (fun X h1 h2 => HS.out X ((j : Int) - 1) (j - 1) h1 h2 (by omega) (by rw [HK.out]; omega))
      have HST := Lib.hid (del_step' HI.out hlt hj (by rw [HK.out]; exact hp) hy HP.out)
      have ec := HG.out.cell (i := P (j - 1)) (Nat.lt_of_lt_of_le (HPN.out (j - 1) (by rw [HK.out]; omega)) hNc)
      rw [del_get' HI.out hlt hj hy] at ec
      have et := HG.out.cell (i := P j) (Nat.lt_of_lt_of_le (HPN.out j (by rw [HK.out]; omega)) hNc)
      have ef := HG.out.frozen (P j)
      have hne : P (j - 1) ≠ P j := fun e => by have := HP.out _ _ (by rw [HK.out]; omega) (by rw [HK.out]; omega) e; omega
      have HMg : M ≠ g := by omega
      obtain ⟨p0, hp0⟩ : ∃ p, P j = p := ⟨_, rfl⟩
      obtain ⟨p1, hp1⟩ : ∃ p, P (j - 1) = p := ⟨_, rfl⟩
      obtain ⟨old, hold⟩ : ∃ u, Sj p0 = u := ⟨_, rfl⟩
      rw [hp0] at HS0 HST et ef hne
      rw [hp1] at HS1 ec hne
      rw [hold] at et
      have HC : Hid (wr.cell? ⟨M, 0, none⟩ = some (.func (.func FS) #[] #[.pointer (some ⟨B, 0, none⟩)]) ∧ wr.cell? ⟨g, p1, none⟩ = some ((Value.int .i64) y)) := ⟨e0, ec⟩
      have HC2 : Hid (∀ n, ((wr.drewN n).setCell ⟨g, p0, none⟩ ((Value.int .i64) y)).cell? ⟨M, 0, none⟩ = some (.func (.func FS) #[] #[.pointer (some ⟨B, 0, none⟩)]) ∧ ((wr.drewN n).setCell ⟨g, p0, none⟩ ((Value.int .i64) y)).cell? ⟨g, p1, none⟩ = some ((Value.int .i64) y)) := fun n =>
        ⟨(World.cell?_setCell_other (wr.drewN n) _ _ _ (fun e => HMg (by injection e with e; exact e.symm))).trans e0, (World.cell?_setCell_other (wr.drewN n) _ _ _ (fun e => hne (by injection e with _ e; exact e.symm))).trans ec⟩
      have hwj : IntKind.i64.wrap ((j : Int) - 1) = (j : Int) - 1 := IntWalk.i64_in _ (by omega)
      have hjp : (0 : Int) < (j : Int) := by omega
      clear hy hp0 hp1 hold hne HMg
      go_wp2_with fail
      go_region_held3 (fun X => X.cell? ⟨M, 0, none⟩ = some (.func (.func FS) #[] #[.pointer (some ⟨B, 0, none⟩)]) ∧ X.cell? ⟨g, p1, none⟩ = some ((Value.int .i64) y)) (first | exact HC.out | exact HC2.out _)
        (first
          | (refine Calls.mono (HS0.out _ ?_ ?_) ?_; exact HR.out; exact HBr.out; rintro en w5 ⟨rfl, n5, rfl⟩)
          | (refine Calls.mono (HS1.out _ ?_ ?_) ?_; exact HR.out; exact HBr.out; rintro en w5 ⟨rfl, n6, rfl⟩))
      all_goals
        go_wp2
        go_roundw
        case rel => exact ⟨j - 1, _, by go_num, by omega, HST.out, World.rowIs.set (w := wr.drewN _) HG.out p0 _, World.rowIs.setOther (w := wr.drewN _) HR.out hRg _, (HO.out.trans (Only.drewN _ _ _)).set (q := ⟨g, p0, none⟩) (Or.inr rfl) _⟩
        case measure => simp only [intOf]; omega
    · obtain rfl : j = 0 := by omega
      have HS0 := Lib.hid (fun X h1 h2 => HS.out X 0 0 h1 h2 rfl (by rw [HK.out]; omega))
      have HST := Lib.hid (fun z => del_end z HI.out (by rw [HK.out]; exact hp) HP.out)
      have et := HG.out.cell (i := P 0) (Nat.lt_of_lt_of_le (HPN.out 0 (by rw [HK.out]; omega)) hNc)
      have ef := HG.out.frozen (P 0)
      obtain ⟨p0, hp0⟩ : ∃ p, P 0 = p := ⟨_, rfl⟩
      obtain ⟨old, hold⟩ : ∃ u, Sj p0 = u := ⟨_, rfl⟩
      rw [hp0] at HS0 HST et ef
      rw [hold] at et
      clear hp0 hold
      go_wp2_with fail
      refine Calls.mono (HS0.out _ HR.out HBr.out) ?_
      rintro en w5 ⟨rfl, n5, rfl⟩
      have HE1 : Hid (∀ z, ((wr.drewN n5).setCell ⟨g, p0, none⟩ z).cell? ⟨M, 1, none⟩ = some (.func (.func FM) #[] #[.pointer (some ⟨B, 0, none⟩)])) := fun z =>
        (World.cell?_setCell_other (wr.drewN n5) _ _ _ (fun e => by injection e with e; omega)).trans e1
      have e2 := HE1.out (.int .i64 0)
      have HRN : Hid (((wr.drewN n5).setCell ⟨g, p0, none⟩ (.int .i64 0)).rowIs R 71 3 hd) := World.rowIs.setOther (w := wr.drewN _) HR.out hRg _
      have HGN : Hid (((wr.drewN n5).setCell ⟨g, p0, none⟩ (.int .i64 0)).rowIs g 3 c _) := World.rowIs.set (w := wr.drewN _) HG.out p0 _
      have HON : Hid (Only (fun k => k = R ∨ k = g) wa ((wr.drewN n5).setCell ⟨g, p0, none⟩ (.int .i64 0))) := (HO.out.trans (Only.drewN _ _ _)).set (q := ⟨g, p0, none⟩) (Or.inr rfl) _
      have HBN : Hid (((wr.drewN n5).setCell ⟨g, p0, none⟩ (.int .i64 0)).cell? ⟨B, 0, none⟩ = some (.pointer (some ⟨R, 0, none⟩))) := HON.out.cell HBa.out (fun e => by rcases e with e | e <;> simp_all)
      go_wp2_with fail
      refine Calls.mono (HM.out _ HRN.out HBN.out) ?_
      rintro en w6 ⟨rfl, hr6, ho6⟩
      have HR6 := Lib.hid hr6
      have HG6 := Lib.hid (ho6.row HGN.out (fun e => hRg e.symm))
      have HO6 := Lib.hid (HON.out.trans (ho6.mono (fun k hk => Or.inl hk)))
      clear hr6 ho6
      go_wp2
      go_ret
      exact ⟨rfl, HR6.out, _, HG6.out, HST.out _, (Only.of_below HBA.out).trans HO6.out⟩

end Go.Proofs.Ytkjcoengijedeab
