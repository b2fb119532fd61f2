/-
  Package table (values: string): the walks of grow, shrink and New. Conditions: the table lies in memory as it reads.
-/
import Derived.Test.YtcjoakbaldeaoaaGTeS
import Derived.OwnWalk
namespace Go.Proofs.Ytcjoakbaldeaoaa
open Go.RowKit

set_option maxRecDepth 100000 in
set_option maxHeartbeats 8000000 in
theorem info_bktS : (Try.prog.info? 101).map (fun i => (i.zero, i.size, i.bytes)) = some (some (.slice none 0 0), 1, 24) := by kernel_rfl

set_option maxRecDepth 100000 in
set_option maxHeartbeats 8000000 in
theorem growS_any {base Q seed : Nat} {ow : Own} {t : Tb (List UInt8)} {gA gB : Nat} {sA sB : Nat → Value} (w : World) (h : PT KS w base ow Q 86 seed t gA sA gB sB) (hpos : 0 < t.A.length) (hna : t.A.length ≤ 400000) (hn : t.n ≤ 400000) :
    Calls Try.prog 63 #[.pointer (some ⟨Q, 0, none⟩)] w fun e w' => e = .returned (.tuple #[]) ∧ ∃ ow' gB' sB', PT KS w' base ow' Q 86 seed (growT t) gA sA gB' sB' ∧ Turns ow ow' w w' := by
  have c2 : w.cell? ⟨Q, 2, none⟩ = some (.int .i64 t.n) := h.hd.cell (by omega)
  have c3 : w.cell? ⟨Q, 3, none⟩ = some (rowV gA t.A.length) := h.hd.cell (by omega)
  have c4 : w.cell? ⟨Q, 4, none⟩ = some (rowV gB t.B.length) := h.hd.cell (by omega)
  have f4 := h.hd.frozen 4
  have hQ : Q < w.heap.size := World.block_lt_of_cell? w _ c2
  rw [rowV_pos hpos] at c3
  have HMV := Lib.hid (fun nq => movesS_any Q t.B.length gB (w.drewN nq) c4)
  have HP := Lib.hid h
  have HST := Lib.hid (fun nq => (show PT KS (w.drewN nq) base ow Q _ seed t gA sA gB sB from TbOn.below HP.out (bdN _ _ _)))
  have HTT := Lib.hid (fun nq => Turns.of_below ow (bdN w.heap.size w nq))
  by_cases hB : t.B.length = 0
  · have HZ := Lib.hid hB
    rw [hB] at c4 HMV
    replace c4 : w.cell? ⟨Q, 4, none⟩ = some (.slice none 0 0) := c4
    rw [show decide (0 < 0) = false from rfl] at HMV
    obtain ⟨n, hne⟩ : ∃ n, t.n = n := ⟨_, rfl⟩
    obtain ⟨na, hnae⟩ : ∃ n, t.A.length = n := ⟨_, rfl⟩
    by_cases hlt : t.A.length < t.n
    · have HG : Hid (growT t = { t with B := List.replicate (2 * na) [] }) := by unfold Hid growT; rw [if_pos ⟨hB, hlt⟩, hnae]
      rw [HG.out]
      rw [hne] at c2 hlt hn
      rw [hnae] at c3 hlt hpos hna
      have hgt : (na : Int) < (n : Int) := by omega
      have hwN : IntKind.i64.wrap (2 * (na : Int)) = ((2 * na : Nat) : Int) := by rw [IntWalk.i64_in _ (by omega)]; omega
      clear hlt
      obtain ⟨i0, hi, hy⟩ := Option.map_eq_some_iff.1 info_bktS
      simp only [Prod.mk.injEq] at hy
      obtain ⟨hy0, hy1, hy2⟩ := hy
      have HFR := Lib.hid (fun nq => PT.fresh (HST.out nq) HZ.out (2 * na) (by omega))
      have HY := Lib.hid (show i0.zero = some (.slice none 0 0) ∧ i0.size = 1 ∧ i0.bytes = 24 from ⟨hy0, hy1, hy2⟩)
      obtain ⟨nn, hnn⟩ : ∃ nn, 2 * na = nn := ⟨_, rfl⟩
      rw [hnn] at HFR hwN
      have hnb : nn ≤ 800000 := by omega
      rw [hnn]
      have f4a : ∀ (nq : Nat) (o : Obj), ((w.drewN nq).alloc o).frozen? ⟨Q, 4, none⟩ = false := fun nq o => (TbOn.below (HST.out nq) ((Below.refl _ _).alloc (Nat.le_refl _) o)).hd.frozen 4
      have c4a : ∀ (nq : Nat) (o : Obj), ((w.drewN nq).alloc o).cell? ⟨Q, 4, none⟩ = some (.slice none 0 0) := fun nq o => (((Below.refl (w.drewN nq).heap.size (w.drewN nq)).alloc (Nat.le_refl _) o).cell (p := ⟨Q, 4, none⟩) hQ).trans c4
      clear h hne hnae HG hy0 hy1 hy2 hB hnn
      go_enter Try.func63, Try.ntmps63
      go_wp2_with fail
      go_quiet ((go_at_call 67; exact Calls.quiet_of_same (HMV.out _)))
      go_wp2_with (at_make; refine wpList_make_row _ rfl _ _ _ rfl 101 i0 (.slice none 0 0) Try.underlying84 hi HY.out.1 HY.out.2.1 rfl .i64 .i64 nn ?m1 ?m2 ?m3 (by omega) ?_)
      try case m3 => rw [HY.out.2.2]; omega
      try case m1 => rfl
      try case m2 => rfl
      go_wp2
      go_end0
      obtain ⟨ow', gB', sB', h1, h2⟩ := HFR.out nq
      exact ⟨rfl, ow', gB', sB', h1, (HTT.out nq).trans h2⟩
    · have HG : Hid (growT t = t) := by unfold Hid growT; rw [if_neg (fun q => hlt q.2)]
      rw [HG.out]
      rw [hne] at c2 hlt hn
      rw [hnae] at c3 hlt hpos hna
      clear h hne hnae HG hB
      have hle : ¬ (na : Int) < (n : Int) := by omega
      clear hlt
      · go_enter Try.func63, Try.ntmps63
        go_wp2_with fail
        go_quiet ((go_at_call 67; exact Calls.quiet_of_same (HMV.out _)))
        go_wp2
        go_end0
        exact ⟨rfl, ow, gB, sB, HST.out nq, HTT.out nq⟩

  · have HG : Hid (growT t = t) := by unfold Hid growT; rw [if_neg (fun q => hB q.1)]
    have hBp : 0 < t.B.length := Nat.pos_of_ne_zero hB
    rw [HG.out]
    rw [decide_eq_true hBp] at HMV
    rw [rowV_pos hBp] at c4
    obtain ⟨n, hne⟩ : ∃ n, t.n = n := ⟨_, rfl⟩
    obtain ⟨na, hnae⟩ : ∃ n, t.A.length = n := ⟨_, rfl⟩
    rw [hne] at c2
    rw [hnae] at c3
    clear h hB HG hBp hne hnae
    go_enter Try.func63, Try.ntmps63
    go_wp2_with fail
    go_quiet ((go_at_call 67; exact Calls.quiet_of_same (HMV.out _)))
    go_wp2
    go_end0
    exact ⟨rfl, ow, gB, sB, HST.out nq, HTT.out nq⟩

set_option maxRecDepth 100000 in
set_option maxHeartbeats 8000000 in
theorem shrinkS_any {base Q seed : Nat} {ow : Own} {t : Tb (List UInt8)} {gA gB : Nat} {sA sB : Nat → Value} (w : World) (h : PT KS w base ow Q 86 seed t gA sA gB sB) (hpos : 0 < t.A.length) (hna : t.A.length ≤ 400000) (hn : t.n ≤ 400000) :
    Calls Try.prog 66 #[.pointer (some ⟨Q, 0, none⟩)] w fun e w' => e = .returned (.tuple #[]) ∧ ∃ ow' gB' sB', PT KS w' base ow' Q 86 seed (shrinkT t) gA sA gB' sB' ∧ Turns ow ow' w w' := by
  have c2 : w.cell? ⟨Q, 2, none⟩ = some (.int .i64 t.n) := h.hd.cell (by omega)
  have c3 : w.cell? ⟨Q, 3, none⟩ = some (rowV gA t.A.length) := h.hd.cell (by omega)
  have c4 : w.cell? ⟨Q, 4, none⟩ = some (rowV gB t.B.length) := h.hd.cell (by omega)
  have f4 := h.hd.frozen 4
  have hQ : Q < w.heap.size := World.block_lt_of_cell? w _ c2
  rw [rowV_pos hpos] at c3
  have HMV := Lib.hid (fun nq => movesS_any Q t.B.length gB (w.drewN nq) c4)
  have HP := Lib.hid h
  have HST := Lib.hid (fun nq => (show PT KS (w.drewN nq) base ow Q _ seed t gA sA gB sB from TbOn.below HP.out (bdN _ _ _)))
  have HTT := Lib.hid (fun nq => Turns.of_below ow (bdN w.heap.size w nq))
  by_cases hB : t.B.length = 0
  · have HZ := Lib.hid hB
    rw [hB] at c4 HMV
    replace c4 : w.cell? ⟨Q, 4, none⟩ = some (.slice none 0 0) := c4
    rw [show decide (0 < 0) = false from rfl] at HMV
    obtain ⟨n, hne⟩ : ∃ n, t.n = n := ⟨_, rfl⟩
    obtain ⟨na, hnae⟩ : ∃ n, t.A.length = n := ⟨_, rfl⟩
    by_cases hlt : 4 < t.A.length ∧ t.n * 8 < t.A.length
    · have HG : Hid (shrinkT t = { t with B := List.replicate (na / 2) [] }) := by unfold Hid shrinkT; rw [if_pos ⟨hB, hlt⟩, hnae]
      rw [HG.out]
      rw [hne] at c2 hlt hn
      rw [hnae] at c3 hlt hpos hna
      have h4 : (4 : Int) < (na : Int) := by omega
      have hw : IntKind.i64.wrap (8 * (n : Int)) = 8 * (n : Int) := IntWalk.i64_in _ (by omega)
      have hgt : 8 * (n : Int) < (na : Int) := by omega
      have hwN : (na : Int) / 2 = ((na / 2 : Nat) : Int) := by omega
      clear hlt
      obtain ⟨i0, hi, hy⟩ := Option.map_eq_some_iff.1 info_bktS
      simp only [Prod.mk.injEq] at hy
      obtain ⟨hy0, hy1, hy2⟩ := hy
      have HFR := Lib.hid (fun nq => PT.fresh (HST.out nq) HZ.out (na / 2) (by omega))
      have HY := Lib.hid (show i0.zero = some (.slice none 0 0) ∧ i0.size = 1 ∧ i0.bytes = 24 from ⟨hy0, hy1, hy2⟩)
      obtain ⟨nn, hnn⟩ : ∃ nn, na / 2 = nn := ⟨_, rfl⟩
      rw [hnn] at HFR hwN
      have hnb : nn ≤ 800000 := by omega
      rw [hnn]
      have f4a : ∀ (nq : Nat) (o : Obj), ((w.drewN nq).alloc o).frozen? ⟨Q, 4, none⟩ = false := fun nq o => (TbOn.below (HST.out nq) ((Below.refl _ _).alloc (Nat.le_refl _) o)).hd.frozen 4
      have c4a : ∀ (nq : Nat) (o : Obj), ((w.drewN nq).alloc o).cell? ⟨Q, 4, none⟩ = some (.slice none 0 0) := fun nq o => (((Below.refl (w.drewN nq).heap.size (w.drewN nq)).alloc (Nat.le_refl _) o).cell (p := ⟨Q, 4, none⟩) hQ).trans c4
      clear h hne hnae HG hy0 hy1 hy2 hB hnn
      go_enter Try.func66, Try.ntmps66
      go_wp2_with fail
      go_quiet ((go_at_call 67; exact Calls.quiet_of_same (HMV.out _)))
      go_wp2_with (at_make; refine wpList_make_row _ rfl _ _ _ rfl 101 i0 (.slice none 0 0) Try.underlying84 hi HY.out.1 HY.out.2.1 rfl .i64 .i64 nn ?m1 ?m2 ?m3 (by omega) ?_)
      try case m3 => rw [HY.out.2.2]; omega
      try case m1 => rfl
      try case m2 => rfl
      go_wp2
      go_end0
      obtain ⟨ow', gB', sB', h1, h2⟩ := HFR.out nq
      exact ⟨rfl, ow', gB', sB', h1, (HTT.out nq).trans h2⟩
    · have HG : Hid (shrinkT t = t) := by unfold Hid shrinkT; rw [if_neg (fun q => hlt q.2)]
      rw [HG.out]
      rw [hne] at c2 hlt hn
      rw [hnae] at c3 hlt hpos hna
      clear h hne hnae HG hB
      have hw : IntKind.i64.wrap (8 * (n : Int)) = 8 * (n : Int) := IntWalk.i64_in _ (by omega)
      by_cases h4 : 4 < na
      · have h4' : (4 : Int) < (na : Int) := by omega
        have hle : ¬ 8 * (n : Int) < (na : Int) := by omega
        clear hlt h4
        go_enter Try.func66, Try.ntmps66
        go_wp2_with fail
        go_quiet ((go_at_call 67; exact Calls.quiet_of_same (HMV.out _)))
        go_wp2
        go_end0
        exact ⟨rfl, ow, gB, sB, HST.out nq, HTT.out nq⟩
      · have h4' : decide ((4 : Int) < (na : Int)) = false := decide_eq_false (by omega)
        clear hlt h4
        go_enter Try.func66, Try.ntmps66
        go_wp2_with fail
        go_quiet ((go_at_call 67; exact Calls.quiet_of_same (HMV.out _)))
        go_wp2
        go_end0
        exact ⟨rfl, ow, gB, sB, HST.out nq, HTT.out nq⟩

  · have HG : Hid (shrinkT t = t) := by unfold Hid shrinkT; rw [if_neg (fun q => hB q.1)]
    have hBp : 0 < t.B.length := Nat.pos_of_ne_zero hB
    rw [HG.out]
    rw [decide_eq_true hBp] at HMV
    rw [rowV_pos hBp] at c4
    obtain ⟨n, hne⟩ : ∃ n, t.n = n := ⟨_, rfl⟩
    obtain ⟨na, hnae⟩ : ∃ n, t.A.length = n := ⟨_, rfl⟩
    rw [hne] at c2
    rw [hnae] at c3
    clear h hB HG hBp hne hnae
    go_enter Try.func66, Try.ntmps66
    go_wp2_with fail
    go_quiet ((go_at_call 67; exact Calls.quiet_of_same (HMV.out _)))
    go_wp2
    go_end0
    exact ⟨rfl, ow, gB, sB, HST.out nq, HTT.out nq⟩

set_option maxRecDepth 100000 in
set_option maxHeartbeats 8000000 in
theorem newS_any (seed : Nat) (w : World) :
    Calls Try.prog 30 #[.int .u64 seed] w fun e w' => ∃ Q ow gA sA gB sB, e = .returned (.pointer (some ⟨Q, 0, none⟩)) ∧ PT KS w' w.heap.size ow Q 86 seed newT gA sA gB sB ∧ Below w.heap.size w w' := by
  obtain ⟨i0, hi, hy⟩ := Option.map_eq_some_iff.1 info_bktS
  simp only [Prod.mk.injEq] at hy
  obtain ⟨hy0, hy1, hy2⟩ := hy
  have HY := Lib.hid (show i0.zero = some (.slice none 0 0) ∧ i0.size = 1 ∧ i0.bytes = 24 from ⟨hy0, hy1, hy2⟩)
  clear hy0 hy1 hy2
  go_enter Try.func30, Try.ntmps30
  go_wp2_with (at_make; refine wpList_make_row _ rfl _ _ _ rfl 101 i0 (.slice none 0 0) Try.underlying84 hi HY.out.1 HY.out.2.1 rfl .i64 .i64 4 ?m1 ?m2 ?m3 (by omega) ?_)
  try case m3 => rw [HY.out.2.2]; omega
  try case m1 => rfl
  try case m2 => rfl
  go_wp2
  go_ret
  obtain ⟨ow, hp⟩ := PT.made KS w seed 86
  exact ⟨_, ow, _, _, _, _, rfl, hp, ((Below.refl w.heap.size w).alloc (Nat.le_refl _) _).alloc (by simp) _⟩

end Go.Proofs.Ytcjoakbaldeaoaa
