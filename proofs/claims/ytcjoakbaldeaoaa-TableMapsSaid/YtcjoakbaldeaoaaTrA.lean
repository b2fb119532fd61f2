/-
  The document's table in memory, as one whose blocks are its own: New, Look and All over it. Conditions: as typed.
-/
import Derived.Test.YtcjoakbaldeaoaaTaG
import Derived.Test.YtcjoakbaldeaoaaTbD
import Derived.BigQuiet
import Derived.Deep.QuietTactic
import Derived.Deep.AppendLies
import Derived.Deep.RegionLaw
import Derived.BigRegion
import Derived.OwnWalk
namespace Go.Proofs.Ytcjoakbaldeaoaa
open Go.RowKit

/-- The head of the document's. -/
def rHdr (seed n moved : Nat) (vA vB : Value) : Nat → Value
  | 0 => .int .u64 seed
  | 1 => vA
  | 2 => vB
  | 3 => .int .i64 moved
  | _ => .int .i64 n

def RT (w : World) (base : Nat) (ow : Own) (Q : Nat) (seed : Nat) (t : Tb Int) (gA : Nat) (sA : Nat → Value) (gB : Nat) (sB : Nat → Value) : Prop :=
  TbOn KR w base ow Q 40 5 (rHdr seed t.n t.moved (rowV gA t.A.length) (rowV gB t.B.length)) t.A gA sA t.B gB sB

theorem rset1 (seed n m : Nat) (a b v : Value) (i : Nat) : (if i = 1 then v else rHdr seed n m a b i) = rHdr seed n m v b i := by rcases i with _ | _ | _ | _ | i <;> simp [rHdr]
theorem rset2 (seed n m : Nat) (a b v : Value) (i : Nat) : (if i = 2 then v else rHdr seed n m a b i) = rHdr seed n m a v i := by rcases i with _ | _ | _ | _ | i <;> simp [rHdr]
theorem rset3 (seed n m m' : Nat) (a b : Value) (i : Nat) : (if i = 3 then .int .i64 m' else rHdr seed n m a b i) = rHdr seed n m' a b i := by rcases i with _ | _ | _ | _ | i <;> simp [rHdr]
theorem rset4 (seed n m n' : Nat) (a b : Value) (i : Nat) (hi : i < 5) : (if i = 4 then .int .i64 n' else rHdr seed n m a b i) = rHdr seed n' m a b i := by rcases i with _ | _ | _ | _ | _ | i <;> simp [rHdr] <;> omega

def adrOf (g n : Nat) : Option Addr := if n = 0 then none else some ⟨g, 0, none⟩
theorem rowV_adr (g n : Nat) : rowV g n = .slice (adrOf g n) n n := by
  unfold rowV adrOf
  split
  · rename_i h; rw [h]
  · rfl

def spotOf : Value → Spot
  | .slice A _ c => ⟨A, match A with | some a => a.block | none => 0, 0, c⟩
  | _ => ⟨none, 0, 0, 0⟩

theorem idxL_eq (k : List UInt8) : ∀ l : List (List UInt8 × Int), idxL l k = idxG l k
  | [] => rfl
  | x :: l => by rw [idxL, idxG, idxL_eq k l]

theorem itemCells_eq (l : List (List UInt8 × Int)) : encIt KR.enc l = itemCells l := rfl

theorem BktAt.of_own {w : World} {base : Nat} {v : Value} {l : List (List UInt8 × Int)} (h : w.ownsRow base KR.te 2 v l.length (encIt KR.enc l)) :
    v = .slice (spotOf v).A l.length (spotOf v).c ∧ BktAt w (spotOf v).A (spotOf v).g (spotOf v).o (spotOf v).c l := by
  have h0 := h
  rcases h.2 with ⟨h1, h2⟩ | ⟨g, cap, cur, hv, hb, hg, hnc, hcm, hcs, htake⟩
  · obtain rfl : l = [] := List.length_eq_zero_iff.1 h2
    subst h1
    exact ⟨rfl, Nat.le_refl _, Nat.zero_le _, fun q => absurd q (Nat.lt_irrefl 0), fun i x hx => by simp at hx, fun _ => rfl⟩
  · subst hv
    have hlt : g < w.heap.size := (Array.getElem?_eq_some_iff.1 hg).1
    refine ⟨rfl, hnc, by simp [maxLen] at hcm; show cap ≤ _; omega, fun _ => ⟨rfl, hlt⟩, fun i x hx => ?_, fun q => by cases q⟩
    have hil := (List.getElem?_eq_some_iff.1 hx).1
    have hg2 := encIt_get KR.enc l i x hx
    show w.cell? ⟨g, 0 + i * 2, none⟩ = _ ∧ w.cell? ⟨g, 0 + i * 2 + 1, none⟩ = _
    rw [show 0 + i * 2 = i * 2 from by omega]
    exact ⟨(World.ownsRow.cellAt h0 (i * 2) (by omega)).trans hg2.1, (World.ownsRow.cellAt h0 (i * 2 + 1) (by omega)).trans hg2.2⟩

theorem RowAt.of_rows {w : World} {base Q g : Nat} {ow : Own} {R : List (List (List UInt8 × Int))} {sp : Nat → Value} (h : RowsAt KR w base ow Q g R sp) (hm : R.length ≤ 9223372036854775807) : RowAt w (adrOf g R.length) g R.length R (fun i => spotOf (sp i)) :=
  ⟨Nat.le_refl _, hm, fun hp => ⟨by unfold adrOf; rw [if_neg (by omega)], (h.row hp).lt⟩, fun i l hl => by
    have hp := len_pos hl
    have hil := (List.getElem?_eq_some_iff.1 hl).1
    obtain ⟨h1, h2⟩ := BktAt.of_own (h.bkt i l hl)
    exact ⟨by rw [(h.row hp).cell hil, ← h1], h2⟩⟩

section
variable {w : World} {base Q seed : Nat} {ow : Own} {t : Tb Int} {gA gB : Nat} {sA sB : Nat → Value}

theorem RT.at_ (h : RT w base ow Q seed t gA sA gB sB) (hA : t.A.length ≤ 1000000) (hB : t.B.length ≤ 1000000) : TbAt w Q seed t (adrOf gA t.A.length) gA t.A.length (fun i => spotOf (sA i)) (adrOf gB t.B.length) gB t.B.length (fun i => spotOf (sB i)) :=
  ⟨h.hd.cell (by omega), (h.hd.cell (i := 1) (by omega)).trans (by rw [show rHdr seed t.n t.moved (rowV gA t.A.length) (rowV gB t.B.length) 1 = rowV gA t.A.length from rfl, rowV_adr]),
    (h.hd.cell (i := 2) (by omega)).trans (by rw [show rHdr seed t.n t.moved (rowV gA t.A.length) (rowV gB t.B.length) 2 = rowV gB t.B.length from rfl, rowV_adr]),
    h.hd.cell (by omega), h.hd.cell (by omega), RowAt.of_rows h.a (by omega), RowAt.of_rows h.b (by omega)⟩

theorem RT.below' {w' : World} (hp : RT w base ow Q seed t gA sA gB sB) (hb : Below w.heap.size w w') : RT w' base ow Q seed t gA sA gB sB := TbOn.below hp hb

theorem RT.base_le (hp : RT w base ow Q seed t gA sA gB sB) : base ≤ Q ∧ Q < w.heap.size := TbOn.dom hp Q (by rw [TbOn.q hp]; exact fun e => by cases e)

theorem RT.fresh (h : RT w base ow Q seed t gA sA gB sB) (n : Nat) (hn : 0 < n) :
    ∃ ow' gB' sB', RT ((w.alloc (.cells (madeCells #[.slice none 0 0] n) KR.tb)).setCell ⟨Q, 2, none⟩ (.slice (some ⟨w.heap.size, 0, none⟩) n n)) base ow' Q seed { t with B := List.replicate n [] } gA sA gB' sB' ∧ Turns ow ow' w ((w.alloc (.cells (madeCells #[.slice none 0 0] n) KR.tb)).setCell ⟨Q, 2, none⟩ (.slice (some ⟨w.heap.size, 0, none⟩) n n)) := by
  have hd := RT.base_le h
  obtain ⟨ow', h1, h2⟩ := (TbOn.drop h gB sB).fresh n (by omega)
  refine ⟨ow', w.heap.size, fun _ => .slice none 0 0, ?_, h2.trans (h1.turnsHd 2 _)⟩
  have h3 := (h1.setHd 2 (.slice (some ⟨w.heap.size, 0, none⟩) n n)).recap (hdr' := rHdr seed t.n t.moved (rowV gA t.A.length) (rowV w.heap.size n)) (fun i _ => by rw [rset2, rowV_pos hn])
  unfold RT
  dsimp only
  rw [List.length_replicate]
  exact h3

theorem RT.setN (hp : RT w base ow Q seed t gA sA gB sB) (n : Nat) : RT (w.setCell ⟨Q, 4, none⟩ (.int .i64 n)) base ow Q seed { t with n := n } gA sA gB sB ∧ Turns ow ow w (w.setCell ⟨Q, 4, none⟩ (.int .i64 n)) :=
  ⟨(TbOn.setHd hp 4 (.int .i64 n)).recap (fun i hi => rset4 _ _ _ _ _ _ i hi), TbOn.turnsHd hp 4 _⟩

end

theorem RT.made (w : World) (seed : Nat) :
    ∃ ow, RT ((w.alloc (.cells (madeCells #[.slice none 0 0] 4) KR.tb)).alloc (.cells #[.int .u64 seed, .slice (some ⟨w.heap.size, 0, none⟩) 4 4, .slice none 0 0, .int .i64 (0 : Nat), .int .i64 (0 : Nat)] 40)) w.heap.size ow (w.heap.size + 1) seed (newT : Tb Int) w.heap.size (fun _ => .slice none 0 0) w.heap.size (fun _ => .slice none 0 0) := by
  have h1 := World.rowIs_made w (.slice none 0 0) 4 KR.tb
  obtain ⟨w1, hw1⟩ : ∃ w1, w.alloc (.cells (madeCells #[.slice none 0 0] 4) KR.tb) = w1 := ⟨_, rfl⟩
  rw [hw1] at h1 ⊢
  have hz : w1.heap.size = w.heap.size + 1 := by rw [← hw1]; simp
  have h2 := World.rowIs_alloc w1 #[.int .u64 seed, .slice (some ⟨w.heap.size, 0, none⟩) 4 4, .slice none 0 0, .int .i64 (0 : Nat), .int .i64 (0 : Nat)] 40 (rHdr seed 0 0 (.slice (some ⟨w.heap.size, 0, none⟩) 4 4) (.slice none 0 0)) (fun i hi => by
    rcases i with _ | _ | _ | _ | _ | i <;> first | rfl | (simp at hi; omega))
  rw [hz] at h2
  refine ⟨fun k => if k = w.heap.size then some (w.heap.size + 1, 0) else if k = w.heap.size + 1 then some (w.heap.size + 1, 1) else none, h2, ?_, ⟨fun _ => if_pos rfl, fun _ => h1.alloc _, fun i l hl => ?_, fun i l b _ hb => by cases hb⟩,
    ⟨fun hp => absurd hp (Nat.lt_irrefl 0), fun hp => absurd hp (Nat.lt_irrefl 0), fun i l hl => by simp [newT] at hl, fun i l b hl => by simp [newT] at hl⟩, fun _ hp => absurd hp (Nat.lt_irrefl 0), fun k hk => ?_⟩
  · show (if w.heap.size + 1 = w.heap.size then _ else _) = _
    rw [if_neg (by omega), if_pos rfl]
  · have : l = [] := by
      rcases i with _ | _ | _ | _ | i <;> simp [newT] at hl <;> exact hl
    subst this
    exact World.ownsRow_nil _ _ _ _
  · have hz2 : ∀ o, (w1.alloc o).heap.size = w.heap.size + 2 := fun o => by simp [hz]
    rw [hz2]
    by_cases e : k = w.heap.size
    · omega
    · by_cases e2 : k = w.heap.size + 1
      · omega
      · exfalso
        refine hk ?_
        show (if k = w.heap.size then _ else if k = w.heap.size + 1 then _ else none) = none
        rw [if_neg e, if_neg e2]

theorem info_rbkt : (Try.prog.info? 42).map (fun i => (i.zero, i.size, i.bytes)) = some (some (.slice none 0 0), 1, 24) := by kernel_rfl

set_option maxRecDepth 100000 in
set_option maxHeartbeats 8000000 in
theorem rnew_any (seed : Nat) (w : World) :
    Calls Try.prog 15 #[.int .u64 seed] w fun e w' => ∃ Q ow gA sA gB sB, e = .returned (.pointer (some ⟨Q, 0, none⟩)) ∧ RT w' w.heap.size ow Q seed newT gA sA gB sB ∧ Below w.heap.size w w' := by
  obtain ⟨i0, hi, hy⟩ := Option.map_eq_some_iff.1 info_rbkt
  simp only [Prod.mk.injEq] at hy
  obtain ⟨hy0, hy1, hy2⟩ := hy
  have HY := Lib.hid (show i0.zero = some (.slice none 0 0) ∧ i0.size = 1 ∧ i0.bytes = 24 from ⟨hy0, hy1, hy2⟩)
  clear hy0 hy1 hy2
  go_enter Try.func15, Try.ntmps15
  go_wp2_with (at_make; refine wpList_make_row _ rfl _ _ _ rfl 42 i0 (.slice none 0 0) Try.underlying38 hi HY.out.1 HY.out.2.1 rfl .i64 .i64 4 ?m1 ?m2 ?m3 (by omega) ?_)
  try case m3 => rw [HY.out.2.2]; omega
  try case m1 => rfl
  try case m2 => rfl
  go_wp2
  go_ret
  obtain ⟨ow, hp⟩ := RT.made w seed
  exact ⟨_, ow, _, _, _, _, rfl, hp, ((Below.refl w.heap.size w).alloc (Nat.le_refl _) _).alloc (by simp) _⟩

theorem rlookT_any {base Q seed m : Nat} {ow : Own} {t : Tb Int} {gA gB : Nat} {sA sB : Nat → Value} (hs : seed < 18446744073709551616) (k : List UInt8) (K : ByteArray) (hK : K.data.toList = k) (hK63 : K.size ≤ 1000) (w : World) (h : RT w base ow Q seed t gA sA gB sB) (hg : Good (hashT seed) m t) (hm : m ≤ 50000) :
    Calls Try.prog 48 #[.pointer (some ⟨Q, 0, none⟩), .string K] w fun e w' => e = .returned (.tuple #[(lookW KI (0 : Int) (lookT (hashT seed) t k)).1, .bool (lookW KI (0 : Int) (lookT (hashT seed) t k)).2]) ∧ Below w.heap.size w w' := by
  have hA := hg.a
  have hB := hg.b
  refine (rlook_any hs k K hK (by omega) w (h.at_ (by omega) (by omega)) hg.kept.pos).mono ?_
  rintro e w' ⟨rfl, hb⟩
  refine ⟨?_, hb⟩
  cases lookT (hashT seed) t k <;> rfl

theorem rallT_any {base Q seed m : Nat} {ow : Own} {t : Tb Int} {gA gB : Nat} {sA sB : Nat → Value} (w : World) (h : RT w base ow Q seed t gA sA gB sB) (hg : Good (hashT seed) m t) (hm : m ≤ 50000) :
    Calls Try.prog 21 #[.pointer (some ⟨Q, 0, none⟩)] w fun e w' => ∃ v, e = .returned v ∧ w'.ownsRow w.heap.size 53 2 v (allT t).length (encIt KR.enc (allT t)) ∧ Below w.heap.size w w' := by
  have hA := hg.a
  have hB := hg.b
  have hn := all_length hg.cnt
  have hm' := hg.n
  exact rall_any w (h.at_ (by omega) (by omega)) (by omega)

end Go.Proofs.Ytcjoakbaldeaoaa
