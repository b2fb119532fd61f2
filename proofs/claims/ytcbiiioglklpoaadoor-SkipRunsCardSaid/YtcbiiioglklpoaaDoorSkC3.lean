/-
  Package skip: listOf, isMade, read, Len, Rank, Count, First of a list that a call made. Conditions: the list stands.
-/
import Derived.Test.YtcbiiioglklpoaaDoorSkC2
import Derived.Maps.OwnSet
namespace Go.Proofs.YtcbiiioglklpoaaDoor
open Go.RowKit

def lsF (s c i : Nat) : Value := if i = 0 then .pointer (some ⟨s, 0, none⟩) else .pointer (some ⟨c, 0, none⟩)

/-- A list in memory: its chain, its nodes, its members in order. -/
structure LsAt (w : World) (base seed s c h mb N : Nat) (ns : List Nd) (S : Nat → Nat → Value) (g : List UInt8 → Option Nat) (sz : Nat) (L : List Mb) : Prop where
  hd : w.rowIs s 73 2 (lsF s c)
  los : base ≤ s
  ck : CkOn w base seed c h mb N 0 ns S g sz
  ls : ns.map (·.2) = L
  mi : MapIs g sz ns
  ord : Ord L

section
variable {w w' : World} {base seed s c h mb N : Nat} {ns : List Nd} {S : Nat → Nat → Value} {g : List UInt8 → Option Nat} {sz : Nat} {L : List Mb}

theorem LsAt.below (k : LsAt w base seed s c h mb N ns S g sz L) (hb : Below w.heap.size w w') : LsAt w' base seed s c h mb N ns S g sz L :=
  ⟨k.hd.of_block (hb.block s k.hd.lt), k.los, k.ck.below hb, k.ls, k.mi, k.ord⟩
theorem LsAt.len (k : LsAt w base seed s c h mb N ns S g sz L) : ns.length = L.length := by rw [← k.ls, List.length_map]
theorem LsAt.siz (k : LsAt w base seed s c h mb N ns S g sz L) : sz = L.length := by
  rw [← k.len]
  exact k.mi.eq.1 (by rw [k.ls]; exact k.ord.2)
theorem LsAt.node (k : LsAt w base seed s c h mb N ns S g sz L) {j : Nat} {y : Mb} (hy : L[j]? = some y) : ∃ x, ns[j]? = some x ∧ x.2 = y := by
  rw [← k.ls, List.getElem?_map] at hy
  cases hq : ns[j]? with
  | none => rw [hq] at hy; cases hy
  | some x => rw [hq] at hy; exact ⟨x, rfl, by simpa using hy⟩
theorem LsAt.find_none (k : LsAt w base seed s c h mb N ns S g sz L) {m : List UInt8} (h : fndM L m = none) : g m = none := by
  have h1 := fndM_none.1 h
  have h2 := k.mi.has m
  have e : ns.map (·.2.1) = L.map (·.1) := by rw [← k.ls, List.map_map]; rfl
  rw [e] at h2
  cases hq : g m with
  | none => rfl
  | some b => rw [hq] at h2; exact absurd (h2.1 rfl) h1
theorem LsAt.find_some (k : LsAt w base seed s c h mb N ns S g sz L) {m : List UInt8} {j : Nat} (h : fndM L m = some j) : ∃ x n, ns[j]? = some x ∧ x.2 = (m, n) ∧ L[j]? = some (m, n) ∧ g m = some x.1 := by
  obtain ⟨n, hn, _⟩ := fndM_some h
  obtain ⟨x, hx, e⟩ := k.node hn
  have := k.mi.own (by rw [k.ls]; exact k.ord.2) j x hx
  rw [e] at this
  exact ⟨x, n, hx, e, hn, this⟩

set_option maxRecDepth 100000 in
set_option maxHeartbeats 4000000 in
theorem isMade_any (hd : w.rowIs s 73 2 (lsF s c)) : Calls Tryd.prog 51 #[.pointer (some ⟨s, 0, none⟩)] w fun e w' => e = .returned (.bool true) ∧ w' = w := by
  have c0 := hd.cell (i := 0) (by omega)
  rw [show lsF s c 0 = .pointer (some ⟨s, 0, none⟩) from rfl] at c0
  have he : (binOp .eql 38 (.pointer (some ⟨s, 0, none⟩)) (.pointer (some ⟨s, 0, none⟩))).run Tryd.prog w = .ok (.bool true) w := by
    have hi : (Tryd.prog.info? 73).isSome = true := by kernel_rfl
    obtain ⟨j, hj⟩ := Option.isSome_iff_exists.1 hi
    exact run_eql_ptr_same w _ Tryd.underlying38 hj
  clear hd
  go_enter Tryd.func51, Tryd.ntmps51
  go_wp2
  go_ret
  exact ⟨rfl, rfl⟩

set_option maxRecDepth 100000 in
set_option maxHeartbeats 4000000 in
theorem lread_any (hd : w.rowIs s 73 2 (lsF s c)) : Calls Tryd.prog 50 #[.pointer (some ⟨s, 0, none⟩)] w fun e w' => e = .returned (.pointer (some ⟨c, 0, none⟩)) ∧ w' = w := by
  have c1 := hd.cell (i := 1) (by omega)
  rw [show lsF s c 1 = .pointer (some ⟨c, 0, none⟩) from rfl] at c1
  have HM := Lib.hid (isMade_any hd)
  clear hd
  go_enter Tryd.func50, Tryd.ntmps50
  go_wp2_with fail
  refine HM.out.mono ?_
  rintro e w1 ⟨rfl, rfl⟩
  go_wp2
  go_ret
  exact ⟨rfl, rfl⟩

set_option maxRecDepth 100000 in
set_option maxHeartbeats 4000000 in
theorem listOf_any (c : Nat) (w : World) : Calls Tryd.prog 49 #[.pointer (some ⟨c, 0, none⟩)] w fun e w' => e = .returned (.pointer (some ⟨w.heap.size, 0, none⟩)) ∧ w'.rowIs w.heap.size 73 2 (lsF w.heap.size c) ∧ Below w.heap.size w w' := by
  go_enter Tryd.func49, Tryd.ntmps49
  go_wp2
  go_ret
  refine ⟨rfl, World.rowIs_alloc w _ _ _ (fun i hi => ?_), (Below.refl _ _).alloc (Nat.le_refl _) _⟩
  have hi : i < 2 := hi
  rcases (by omega : i = 0 ∨ i = 1) with rfl | rfl <;> rfl

set_option maxRecDepth 100000 in
set_option maxHeartbeats 4000000 in
theorem len_any (k : LsAt w base seed s c h mb N ns S g sz L) : Calls Tryd.prog 20 #[.pointer (some ⟨s, 0, none⟩)] w fun e w' => e = .returned (.int .i64 (L.length : Nat)) ∧ w' = w := by
  have HR := Lib.hid (lread_any k.hd)
  have c2 := k.ck.blk.cell (i := 2) (by omega)
  rw [show ckF seed h mb 0 2 = .map (some mb) from rfl] at c2
  obtain ⟨D, hD, _, _, hs⟩ := k.ck.mp
  have HD := Lib.hid hD
  rw [← k.siz, ← hs]
  obtain ⟨z, hz⟩ : ∃ z, Maps.size D = z := ⟨_, rfl⟩
  have HZ := Lib.hid hz
  rw [hz]
  clear k hD hs hz
  go_enter Tryd.func20, Tryd.ntmps20
  go_wp2_with fail
  refine HR.out.mono ?_
  rintro e w1 ⟨rfl, rfl⟩
  go_wp2_with (first | (at_len; (refine wpList_len_own (H := Nat) _ rfl _ 93 rfl 9 92 Tryd.underlying93 ndElem mb N D rfl HD.out ?_; rw [HZ.out])) | fail)
  go_wp2
  go_ret
  exact ⟨rfl, rfl⟩

set_option maxRecDepth 100000 in
set_option maxHeartbeats 4000000 in
theorem rank_any (k : LsAt w base seed s c h mb N ns S g sz L) (hn : L.length ≤ 900000) (SM : ByteArray) (hS : SM.size ≤ 9223372036854775807) :
    Calls Tryd.prog 29 #[.pointer (some ⟨s, 0, none⟩), .string SM] w fun e w' => e = .returned (match fndM L SM.data.toList with | some j => .tuple #[.int .i64 (j : Nat), .bool true] | none => .tuple #[.int .i64 0, .bool false]) ∧ Below w.heap.size w w' := by
  have HR := Lib.hid (lread_any k.hd)
  have c2 := k.ck.blk.cell (i := 2) (by omega)
  rw [show ckF seed h mb 0 2 = .map (some mb) from rfl] at c2
  have HLK := nm_look k.ck.mp SM hS
  have HK := Lib.hid k
  have HN := Lib.hid hn
  cases hf : fndM L SM.data.toList with
  | none =>
    rw [k.find_none hf] at HLK
    have HLK' : (Instr.lookup 93 (.map (some mb)) (.string SM) false).run Tryd.prog w = .ok (.pointer none) w := HLK
    clear HLK k hf
    dsimp only
    go_enter Tryd.func29, Tryd.ntmps29
    go_wp2_with fail
    refine HR.out.mono ?_
    rintro e w1 ⟨rfl, rfl⟩
    go_wp2
    go_ret2
    exact ⟨rfl, Below.refl _ _⟩
  | some j =>
    obtain ⟨x, n, hx, he, hl, hg⟩ := k.find_some hf
    rw [hg] at HLK
    have HLK' : (Instr.lookup 93 (.map (some mb)) (.string SM) false).run Tryd.prog w = .ok (.pointer (some ⟨x.1, 0, none⟩)) w := HLK
    obtain ⟨y0, y1⟩ := k.ck.ch.cells hx
    have hp : rkM x.2 L = j := by rw [he]; exact rkM_self k.ord.1 hl
    have HB := Lib.hid (before_any x.2 w)
    have HCT := Lib.hid (fun (W : World) (hW : Below w.heap.size w W) (hB : W.rowIs w.heap.size 47 2 (mbF x.2)) =>
      count_any (p := rkM x.2 L) W (lvS_pos seed) enter_b1 (before_ahead (k.ck.ch.below hW) k.ls k.ord.1 hB) (by rw [k.len]; exact rkM_le _ _) (by rw [k.len]; omega)
        ((hW.cell (p := ⟨c, 1, none⟩) k.ck.blk.lt).trans (k.ck.blk.cell (i := 1) (by omega))) (k.ck.ch.below hW))
    rw [hp] at HCT
    obtain ⟨XS, hXS⟩ : ∃ XS : ByteArray, (⟨x.2.1.toArray⟩ : ByteArray) = XS := ⟨_, rfl⟩
    obtain ⟨XN, hXN⟩ : ∃ XN, x.2.2 = XN := ⟨_, rfl⟩
    rw [hXS] at y0 HB
    rw [hXN] at y1 HB
    clear HLK k hf hx he hl hg hp hXS hXN
    dsimp only
    go_enter Tryd.func29, Tryd.ntmps29
    go_wp2_with fail
    refine HR.out.mono ?_
    rintro e w1 ⟨rfl, rfl⟩
    go_wp2_with fail
    refine HB.out.mono ?_
    rintro e w2 ⟨rfl, hr2, hb2⟩
    have HC2 := Lib.hid (HCT.out w2 hb2 hr2)
    have HB2 := Lib.hid hb2
    clear hr2 hb2
    go_wp2_with fail
    refine HC2.out.mono ?_
    rintro e w3 ⟨rfl, hb3⟩
    have HB3 := Lib.hid (HB2.out.trans (hb3.mono HB2.out.size))
    clear hb3
    go_wp2
    go_ret2
    exact ⟨rfl, HB3.out⟩

set_option maxRecDepth 100000 in
set_option maxHeartbeats 4000000 in
theorem lcount_any (k : LsAt w base seed s c h mb N ns S g sz L) (hn : L.length ≤ 900000) (lo hi : Bd) :
    Calls Tryd.prog 33 #[.pointer (some ⟨s, 0, none⟩), bdV lo, bdV hi] w fun e w' => e = .returned (.int .i64 ((toM lo hi L - fromM lo L : Nat) : Int)) ∧ Below w.heap.size w w' := by
  have HK := Lib.hid k
  obtain ⟨M, hM⟩ : ∃ M, w.heap.size = M := ⟨_, rfl⟩
  obtain ⟨wa, hwa⟩ : ∃ wa, (w.alloc (.cells #[.int .i64 lo.n, .bool lo.open_, .int .i64 lo.inf] 23)).alloc (.cells #[.int .i64 hi.n, .bool hi.open_, .int .i64 hi.inf] 23) = wa := ⟨_, rfl⟩
  have hr1 : wa.rowIs M 23 3 (bdF lo) := by
    rw [← hwa, ← hM]
    exact (World.rowIs_alloc w _ _ (bdF lo) (fun i hi => by
      have hi : i < 3 := hi
      rcases (by omega : i = 0 ∨ i = 1 ∨ i = 2) with rfl | rfl | rfl <;> rfl)).alloc _
  have hr2 : wa.rowIs (M + 1) 23 3 (bdF hi) := by
    rw [← hwa, ← hM]
    have q := World.rowIs_alloc (w.alloc (.cells #[.int .i64 lo.n, .bool lo.open_, .int .i64 lo.inf] 23)) #[.int .i64 hi.n, .bool hi.open_, .int .i64 hi.inf] 23 (bdF hi) (fun i hi => by
      have hi : i < 3 := hi
      rcases (by omega : i = 0 ∨ i = 1 ∨ i = 2) with rfl | rfl | rfl <;> rfl)
    have e : (w.alloc (.cells #[.int .i64 lo.n, .bool lo.open_, .int .i64 lo.inf] 23)).heap.size = w.heap.size + 1 := by simp
    rw [e] at q
    exact q
  have hbe : Below w.heap.size w wa := by rw [← hwa]; exact ((Below.refl _ _).alloc (Nat.le_refl _) _).alloc (by simp) _
  have HR := Lib.hid (fun (X : World) (hX : Below wa.heap.size wa X) => lread_any ((k.below hbe).below hX).hd)
  have HRE := Lib.hid (fun (X : World) (hX : Below wa.heap.size wa X) => reach_any lo hi X (lvS_pos seed) (by rw [k.len]; omega) (((k.below hbe).below hX).ck.blk.cell (i := 1) (by omega)) ((k.below hbe).below hX).ck.ch k.ls k.ord.1)
  have R1 := Lib.hid (fun (X : World) (hX : Below wa.heap.size wa X) => hr1.of_block (hX.block M hr1.lt))
  have R2 := Lib.hid (fun (X : World) (hX : Below wa.heap.size wa X) => hr2.of_block (hX.block (M + 1) hr2.lt))
  have p0 := hr1.cell (i := 0) (by omega)
  have p1 := hr1.cell (i := 1) (by omega)
  have p2 := hr1.cell (i := 2) (by omega)
  have q0 := hr2.cell (i := 0) (by omega)
  have q1 := hr2.cell (i := 1) (by omega)
  have q2 := hr2.cell (i := 2) (by omega)
  rw [show bdF lo 0 = .int .i64 lo.n from rfl] at p0
  rw [show bdF lo 1 = .bool lo.open_ from rfl] at p1
  rw [show bdF lo 2 = .int .i64 lo.inf from rfl] at p2
  rw [show bdF hi 0 = .int .i64 hi.n from rfl] at q0
  rw [show bdF hi 1 = .bool hi.open_ from rfl] at q1
  rw [show bdF hi 2 = .int .i64 hi.inf from rfl] at q2
  have HBE := Lib.hid hbe
  have HWA := Lib.hid hwa
  have hle := fromM_le lo hi L
  have hle2 := toM_le lo hi L
  obtain ⟨a, ha⟩ : ∃ a, fromM lo L = a := ⟨_, rfl⟩
  obtain ⟨t, ht⟩ : ∃ t, toM lo hi L = t := ⟨_, rfl⟩
  rw [ha, ht] at HRE hle ⊢
  rw [ht] at hle2
  unfold bdV at HRE ⊢
  have hsub : IntKind.i64.wrap ((t : Int) - (a : Int)) = ((t - a : Nat) : Int) := by rw [IntWalk.i64_in _ (by omega)]; omega
  obtain ⟨z, hz⟩ : ∃ z, t - a = z := ⟨_, rfl⟩
  rw [hz] at hsub ⊢
  rw [hM] at HBE ⊢
  clear k hr1 hr2 hbe hwa ha ht hz hn hle hle2
  go_enter Tryd.func33, Tryd.ntmps33
  go_wp2_with fail
  rw [HWA.out]
  go_region_law (first
    | (go_simp; go_at_call 50; refine (HR.out _ (by first | exact Below.refl _ _ | exact (Below.refl _ _).drew | exact (Below.refl _ _).drew.drew)).mono ?_; rintro en w4 ⟨rfl, rfl⟩)
    | (go_simp; go_at_call 59; refine (HRE.out _ (by first | exact Below.refl _ _ | exact (Below.refl _ _).drew | exact (Below.refl _ _).drew.drew)).mono ?_; rintro en w5 ⟨rfl, hb5⟩; have HB5 := Lib.hid (HBE.out.trans ((show Below wa.heap.size wa w5 from (by first | exact hb5 | exact (Below.refl wa.heap.size wa).drew.trans hb5 | exact (Below.refl wa.heap.size wa).drew.drew.trans hb5)).mono (by have := HBE.out.size; omega))); clear hb5))
  all_goals
    go_wp2
    go_ret
    exact ⟨rfl, HB5.out⟩

end

end Go.Proofs.YtcbiiioglklpoaaDoor
