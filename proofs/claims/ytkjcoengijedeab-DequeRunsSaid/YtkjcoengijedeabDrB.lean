/-
  The document's list in memory: Remove and Trim; append of a slice behind an own row as one step of a region that draws.
-/
import Derived.Test.YtkjcoengijedeabDrA
import Derived.Deep.RegionHeld3
import Derived.Deep.RegionLaw
namespace Go.Proofs.Ytkjcoengijedeab
open Go.RowKit

theorem step_append_sl {P : Program} {ops : Array Oper} {o : Oper} {a : Act} {w : World} {K : Act → World → Prop} {Q : Exit → Act → World → Prop} {E : Prop} (hgd : o.guard = none) (s x : Operand) (t : TypeId)
    (ho : o.op = .call { callee := .builtin .append, args := #[s, x], argTypes := #[t, t] })
    (base : Nat) (e : TypeId) (i : TypeInfo) (z : Value) (bytes : Nat) (ht : P.underlying t = some (.slice e)) (hi : P.info? e = some i) (hz : i.zero = some z) (hsize : i.size = 1) (hby : i.bytes = bytes) (hzs : z.cells.size = 1)
    (v : Value) (n : Nat) (xs : List Value) (hs : a.eval s = v) (hown : w.ownsRow base e 1 v n xs) (A : Option Addr) (m c : Nat) (news : List Value) (hx : a.eval x = .slice A m c) (hr : SlAt w A m c news) (h1 : ∀ u ∈ news, u.oneCell' = true)
    (h63 : n + m ≤ 9223372036854775807) (hbytes : (n + m) * bytes ≤ 140737488355328) (hbase : base ≤ w.heap.size)
    (h : ∀ v' w', w'.ownsRow base e 1 v' (n + m) (xs ++ news) → w.grownBy w' v.ownBlock → K (a.put o.dst v') w') :
    if Region.wanted o (yielded ops a.tmps) = true then Oper.wp P o a w K Q else E := by
  have hw : Region.wanted o (yielded ops a.tmps) = true := by simp [Region.wanted, hgd]
  rw [if_pos hw]
  obtain ⟨v', w', hrun, h2, h3, _, _⟩ := run_append_sl (P := P) base t o.type e i z bytes ht hi hz hsize hby hzs v n xs hown A m c news hr h1 h63 hbytes hbase
  unfold Oper.wp
  simp [execOp, ho, resolve, invoke, builtin, hs, hx, hrun, Result.andThen]
  exact h v' w' h2 h3

section
variable {w w' : World} {base Q : Nat} {G : Nat → Prop} {L L' : List ByteArray}

set_option maxRecDepth 100000 in
set_option maxHeartbeats 4000000 in
theorem rtrim_no (w : World) (h : RwOn w base G Q L) (i j : Int) (hi : i < 0 ∨ j < i ∨ L.length < j) :
    Calls Try.prog 36 #[.pointer (some ⟨Q, 0, none⟩), .int .i64 i, .int .i64 j] w fun e w' => e = .returned (.int .i64 5) ∧ w' = w := by
  obtain ⟨_, _, A, c, hx, _, _⟩ := h
  have c0 := hx.cell
  clear hx
  by_cases h0 : i < 0
  · clear hi
    go_enter Try.func36, Try.ntmps36
    go_wp2
    go_ret
    exact ⟨rfl, rfl⟩
  · by_cases h1 : j < i
    · clear hi
      go_enter Try.func36, Try.ntmps36
      go_wp2
      go_ret
      exact ⟨rfl, rfl⟩
    · have h2 : (L.length : Int) < j := by omega
      clear hi
      go_enter Try.func36, Try.ntmps36
      go_wp2
      go_ret
      exact ⟨rfl, rfl⟩

set_option maxRecDepth 100000 in
set_option maxHeartbeats 4000000 in
theorem rtrim_yes {i j : Nat} (w : World) (h : RwOn w base G Q L) (hL : L.length ≤ 2000) (hij : i ≤ j) (hj : j ≤ L.length) :
    Calls Try.prog 36 #[.pointer (some ⟨Q, 0, none⟩), .int .i64 i, .int .i64 j] w fun e w' => e = .returned (.int .i64 0) ∧ ∃ G', RwOn w' base G' Q ((L.take j).drop i) ∧ Chg G G' w w' := by
  obtain ⟨ip, hip, hyp⟩ := Option.map_eq_some_iff.1 info_eltS
  simp only [Prod.mk.injEq] at hyp
  have HIP := Lib.hid hyp
  have HIQ := Lib.hid hip
  have HH := Lib.hid h
  obtain ⟨hf, hQ, A, c, hx, hown, _⟩ := h
  have HS := Lib.hid (SlAt.own hown)
  have hnc := HS.out.le
  have hcm := HS.out.max
  have hQl := (hf Q hQ).2
  have HX := Lib.hid hx
  have c0 := hx.cell
  obtain ⟨n, hn⟩ : ∃ n, L.length = n := ⟨_, rfl⟩
  have HN := Lib.hid hn
  rw [hn] at HS HX hnc hj c0 hL
  have h1 : ¬ (i : Int) < 0 := by omega
  have h2 : ¬ (j : Int) < (i : Int) := by omega
  have h3 : ¬ (n : Int) < (j : Int) := by omega
  have hic : (i : Int) ≤ (c : Int) := by omega
  have hjc : (j : Int) ≤ (c : Int) := by omega
  have hijz : (i : Int) ≤ (j : Int) := by omega
  have hi0 : (0 : Int) ≤ (i : Int) := by omega
  have hj0 : (0 : Int) ≤ (j : Int) := by omega
  obtain ⟨wx, hwx⟩ : ∃ wx, w.alloc (.cells #[] 9) = wx := ⟨_, rfl⟩
  have hbx : Below w.heap.size w wx := by rw [← hwx]; exact (Below.refl _ _).alloc (Nat.le_refl _) _
  have HEMP : Hid (wx.ownsRow w.heap.size 9 1 (.slice (some ⟨w.heap.size, 0, none⟩) 0 0) 0 []) := by
    unfold Hid
    rw [← hwx]
    exact World.ownsRow_made w #[] 0 (Nat.le_refl _) (by decide) rfl
  have HST := Lib.hid (((HS.out.below hbx).first hj).rest hij)
  have HBX := Lib.hid hbx
  have hxz := hbx.size
  have c1 := (hbx.cell (p := ⟨Q, 0, none⟩) hQl).trans c0
  have HWX := Lib.hid hwx
  have HON : Hid (∀ (l : List ByteArray) (u : Value), u ∈ l.map Value.string → u.oneCell' = true) := fun l u hu => by
    obtain ⟨x, _, rfl⟩ := List.mem_map.1 hu
    rfl
  have HXS : Hid (((L.map Value.string).take j).drop i = ((L.take j).drop i).map Value.string) := by
    unfold Hid
    rw [List.map_drop, List.map_take]
  have HCL : Hid (∀ (m : Nat) (w4 : World) (A4 : Option Addr) (k4 : Nat) (xs : List Value), Below w.heap.size w w4 → w4.ownsRow w.heap.size 9 1 (.slice A4 m k4) m xs → m = j - i → xs = ((L.take j).drop i).map Value.string → ∃ G', RwOn (w4.setCell ⟨Q, 0, none⟩ (.slice A4 m k4)) base G' Q ((L.take j).drop i) ∧ Chg G G' w (w4.setCell ⟨Q, 0, none⟩ (.slice A4 m k4))) := fun m w4 A4 k4 xs h1 h2 e1 e2 => by
    subst e2
    have hl : ((L.take j).drop i).length = m := by
      rw [List.length_drop, List.length_take, HN.out, e1]
      omega
    exact HH.out.stored h1 hl h2
  clear hyp hip hf hQ hx hown hn hwx hbx
  by_cases hci : c = i
  · rw [if_pos hci] at HST
    have hnc0 : j - i = 0 := by omega
    have hcc0 : c - i = 0 := by omega
    rw [hnc0, hcc0] at HST
    go_enter Try.func36, Try.ntmps36
    go_wp2_with (first | rw [HWX.out] | (at_builtin; refine wpList_append_sl rfl _ _ 22 rfl w.heap.size 9 ip _ 16 Try.underlying22 HIQ.out HIP.out.1 HIP.out.2.1 HIP.out.2.2 rfl (.slice (some ⟨w.heap.size, 0, none⟩) 0 0) 0 [] rfl HEMP.out A 0 0 _ rfl HST.out (by rw [HXS.out]; exact HON.out _) (by omega) (by omega) hxz ?_))
    intro v' w4 hown hgr hnil hat
    obtain ⟨A4, k4, rfl⟩ := own_form1 hown
    have hb4 : Below w.heap.size w w4 := HBX.out.trans ((Below.refl _ _).grown hgr hxz (fun k e => (HEMP.out.lt k e).1))
    have hx4 := (hb4.block Q hQl).trans HX.out
    have c4 := Boxed.cell hx4
    have f4 := Boxed.frozen hx4
    have hE := HCL.out _ w4 A4 k4 _ hb4 hown
    have HE := Lib.hid (hE (by omega) (by first | exact HXS.out | simpa using HXS.out))
    clear hE hown hgr hnil hat hb4 hx4 c1
    go_wp2
    go_ret
    exact ⟨rfl, HE.out⟩
  · rw [if_neg hci] at HST
    go_enter Try.func36, Try.ntmps36
    go_wp2_with (first | rw [HWX.out] | (at_builtin; go_loud (refine wpList_append_sl rfl _ _ 22 rfl w.heap.size 9 ip _ 16 Try.underlying22 HIQ.out HIP.out.1 HIP.out.2.1 HIP.out.2.2 rfl (.slice (some ⟨w.heap.size, 0, none⟩) 0 0) 0 [] rfl HEMP.out (A.map (fun x => x.add i)) (j - i) (c - i) _ rfl HST.out (by rw [HXS.out]; exact HON.out _) (by omega) (by omega) hxz ?_)))
    intro v' w4 hown hgr hnil hat
    obtain ⟨A4, k4, rfl⟩ := own_form1 hown
    have hb4 : Below w.heap.size w w4 := HBX.out.trans ((Below.refl _ _).grown hgr hxz (fun k e => (HEMP.out.lt k e).1))
    have hx4 := (hb4.block Q hQl).trans HX.out
    have c4 := Boxed.cell hx4
    have f4 := Boxed.frozen hx4
    have hE := HCL.out _ w4 A4 k4 _ hb4 hown
    have HE := Lib.hid (hE (by omega) (by first | exact HXS.out | simpa using HXS.out))
    clear hE hown hgr hnil hat hb4 hx4 c1
    go_wp2
    go_ret
    exact ⟨rfl, HE.out⟩

set_option maxRecDepth 100000 in
set_option maxHeartbeats 4000000 in
theorem rdel_no (w : World) (h : RwOn w base G Q L) (i : Int) (hi : ¬ (0 ≤ i ∧ i < L.length)) :
    Calls Try.prog 35 #[.pointer (some ⟨Q, 0, none⟩), .int .i64 i] w fun e w' => e = .returned (.tuple #[.string ByteArray.empty, .int .i64 5]) ∧ w' = w := by
  obtain ⟨_, _, A, c, hx, _, _⟩ := h
  have c0 := hx.cell
  have HIN := Lib.hid (in_no i L.length w hi)
  clear hx hi
  go_enter Try.func35, Try.ntmps35
  go_wp2_with fail
  refine HIN.out.mono ?_
  rintro e w' ⟨rfl, rfl⟩
  go_wp2
  go_ret2
  exact ⟨rfl, rfl⟩

set_option maxRecDepth 100000 in
set_option maxHeartbeats 8000000 in
theorem rdel_yes {i : Nat} {v : ByteArray} (w : World) (h : RwOn w base G Q L) (hL : L.length ≤ 2000) (hv : L[i]? = some v) :
    Calls Try.prog 35 #[.pointer (some ⟨Q, 0, none⟩), .int .i64 i] w fun e w' => e = .returned (.tuple #[.string v, .int .i64 0]) ∧ ∃ G', RwOn w' base G' Q (delAt L i) ∧ Chg G G' w w' := by
  obtain ⟨ip, hip, hyp⟩ := Option.map_eq_some_iff.1 info_eltS
  simp only [Prod.mk.injEq] at hyp
  have HIP := Lib.hid hyp
  have HIQ := Lib.hid hip
  have HH := Lib.hid h
  obtain ⟨hf, hQ, A, c, hx, hown, _⟩ := h
  have HS := Lib.hid (SlAt.own hown)
  have hnc := HS.out.le
  have hcm := HS.out.max
  have hQl := (hf Q hQ).2
  have HX := Lib.hid hx
  have c0 := hx.cell
  have hi := lt_of_some hv
  have HIN := Lib.hid (in_yes i L.length w (by omega) (by omega))
  obtain ⟨b, o, u, rfl, hbl, hu, ec⟩ := HS.out.cell hi
  rw [List.getElem?_map, hv] at hu
  simp only [Option.map_some, Option.some.injEq] at hu
  subst hu
  obtain ⟨n, hn⟩ : ∃ n, L.length = n := ⟨_, rfl⟩
  have HN := Lib.hid hn
  rw [hn] at HS HX hnc hi c0 hL HIN
  have hic : (i : Int) ≤ (c : Int) := by omega
  have hin : (i : Int) < (n : Int) := by omega
  have hi0 : (0 : Int) ≤ (i : Int) := by omega
  obtain ⟨p, hp⟩ : ∃ p, i + 1 = p := ⟨_, rfl⟩
  have HP := Lib.hid hp
  have hip1 : i < p := by omega
  have hpn : p ≤ n := by omega
  have hi1 : (0 : Int) ≤ (p : Int) := by omega
  have hi1c : (p : Int) ≤ (c : Int) := by omega
  have hi1n : (p : Int) ≤ (n : Int) := by omega
  have hw : IntKind.i64.wrap ((i : Int) + 1) = (p : Int) := by rw [IntWalk.i64_in _ (by omega)]; omega
  have hb0 : Below w.heap.size w w.drew := (Below.refl _ _).drew
  have hbx : Below w.heap.size w (w.drew.alloc (.cells #[] 9)) := hb0.alloc hb0.size _
  have HEMP : Hid ((w.drew.alloc (.cells #[] 9)).ownsRow w.heap.size 9 1 (.slice (some ⟨w.drew.heap.size, 0, none⟩) 0 0) 0 []) :=
    World.ownsRow_made w.drew #[] 0 (Nat.le_refl _) (by decide) rfl
  have HSX := Lib.hid (HS.out.below hbx)
  have HST1 := Lib.hid (HSX.out.first (Nat.le_of_lt hi))
  have HBX := Lib.hid hbx
  have hxz := hbx.size
  have HCE : Hid (∀ X, Below w.heap.size w X → X.cell? ⟨Q, 0, none⟩ = some (.slice (some ⟨b, o, none⟩) n c)) := fun X hX => (hX.cell (p := ⟨Q, 0, none⟩) hQl).trans c0
  have HON : Hid (∀ (l : List ByteArray) (u : Value), u ∈ l.map Value.string → u.oneCell' = true) := fun l u hu => by
    obtain ⟨x, _, rfl⟩ := List.mem_map.1 hu
    rfl
  have HXS : Hid ((L.map Value.string).take i ++ (L.map Value.string).drop p = (delAt L i).map Value.string) := by
    unfold Hid delAt
    rw [← hp]
    simp [List.map_take, List.map_drop]
  have HCL : Hid (∀ (m : Nat) (w4 : World) (A4 : Option Addr) (k4 : Nat) (xs : List Value), Below w.heap.size w w4 → w4.ownsRow w.heap.size 9 1 (.slice A4 m k4) m xs → m = i + (n - p) → xs = (delAt L i).map Value.string → ∃ G', RwOn (w4.setCell ⟨Q, 0, none⟩ (.slice A4 m k4)) base G' Q (delAt L i) ∧ Chg G G' w (w4.setCell ⟨Q, 0, none⟩ (.slice A4 m k4))) := fun m w4 A4 k4 xs h1 h2 e1 e2 => by
    subst e2
    exact HH.out.stored h1 (by rw [delAt_length (by rw [HN.out]; exact hi), HN.out, e1]; omega) h2
  have hQd := HCE.out _ hb0
  have hQx := HCE.out _ hbx
  clear hyp hip hf hQ hx hown hn hbx hv hp
  by_cases hci : c = p
  · have HS3 := Lib.hid (fun X (hX : Below w.heap.size w X) => (HS.out.below hX).rest hpn)
    rw [if_pos hci] at HS3
    obtain rfl : n = p := by omega
    subst hci
    rw [Nat.sub_self] at HS3
    go_enter Try.func35, Try.ntmps35
    go_wp2_with fail
    refine HIN.out.mono ?_
    rintro e w2 ⟨rfl, hw2⟩
    rw [hw2]
    go_wp2_with fail
    go_region_law (first
      | (have qq := HB1; (refine step_append_sl rfl _ _ 22 rfl w.heap.size 9 ip _ 16 Try.underlying22 HIQ.out HIP.out.1 HIP.out.2.1 HIP.out.2.2 rfl (.slice A1 i k1) i _ rfl HO1.out (some ⟨b, o, none⟩) 0 0 _ rfl (HS3.out w1 HB1.out) (by rw [← List.map_drop]; exact HON.out _) (by omega) (by omega) HB1.out.size ?_); intro v4 w4 hown hgr; obtain ⟨A4, k4, rfl⟩ := own_form1 hown; have hb4 : Below w.heap.size w w4 := HB1.out.trans ((Below.refl _ _).grown hgr HB1.out.size (fun k e => (HO1.out.lt k e).1)); have hx4 := (hb4.block Q hQl).trans HX.out; have c4 := Boxed.cell hx4; have f4 := Boxed.frozen hx4; have hE := HCL.out _ w4 A4 k4 _ hb4 hown (by omega) (by first | exact HXS.out | simpa using HXS.out); have HE := Lib.hid hE; clear hown hgr hE hb4 hx4)
      | ((refine step_append_sl rfl _ _ 22 rfl w.heap.size 9 ip _ 16 Try.underlying22 HIQ.out HIP.out.1 HIP.out.2.1 HIP.out.2.2 rfl (.slice (some ⟨w.drew.heap.size, 0, none⟩) 0 0) 0 [] rfl HEMP.out (some ⟨b, o, none⟩) i c ((L.map Value.string).take i) rfl HST1.out (by rw [← List.map_take]; exact HON.out _) (by omega) (by omega) hxz ?_); intro v1 w1 hown hgr; obtain ⟨A1, k1, rfl⟩ := own_form1 hown; have HB1 : Hid (Below w.heap.size w w1) := HBX.out.trans ((Below.refl _ _).grown hgr hxz (fun k e => (HEMP.out.lt k e).1)); have HO1 := Lib.hid hown; rw [Nat.zero_add, List.nil_append] at HO1; have hc1 := HCE.out w1 HB1.out; clear hown hgr; try rw [Nat.zero_add]))
    all_goals
      go_wp2
      go_ret2
      exact ⟨rfl, HE.out⟩
  · have HS3 := Lib.hid (fun X (hX : Below w.heap.size w X) => (HS.out.below hX).rest hpn)
    have hadd : (some (⟨b, o, none⟩ : Addr)).map (fun x => x.add p) = some ⟨b, o + p, none⟩ := by simp [Addr.add, show p ≠ 0 by omega]
    rw [if_neg hci, hadd] at HS3
    go_enter Try.func35, Try.ntmps35
    go_wp2_with fail
    refine HIN.out.mono ?_
    rintro e w2 ⟨rfl, hw2⟩
    rw [hw2]
    go_wp2_with fail
    go_region_law (first
      | (have qq := HB1; (refine step_append_sl rfl _ _ 22 rfl w.heap.size 9 ip _ 16 Try.underlying22 HIQ.out HIP.out.1 HIP.out.2.1 HIP.out.2.2 rfl (.slice A1 i k1) i _ rfl HO1.out (some ⟨b, o + p, none⟩) (n - p) (c - p) _ rfl (HS3.out w1 HB1.out) (by rw [← List.map_drop]; exact HON.out _) (by omega) (by omega) HB1.out.size ?_); intro v4 w4 hown hgr; obtain ⟨A4, k4, rfl⟩ := own_form1 hown; have hb4 : Below w.heap.size w w4 := HB1.out.trans ((Below.refl _ _).grown hgr HB1.out.size (fun k e => (HO1.out.lt k e).1)); have hx4 := (hb4.block Q hQl).trans HX.out; have c4 := Boxed.cell hx4; have f4 := Boxed.frozen hx4; have hE := HCL.out _ w4 A4 k4 _ hb4 hown (by omega) (by first | exact HXS.out | simpa using HXS.out); have HE := Lib.hid hE; clear hown hgr hE hb4 hx4)
      | ((refine step_append_sl rfl _ _ 22 rfl w.heap.size 9 ip _ 16 Try.underlying22 HIQ.out HIP.out.1 HIP.out.2.1 HIP.out.2.2 rfl (.slice (some ⟨w.drew.heap.size, 0, none⟩) 0 0) 0 [] rfl HEMP.out (some ⟨b, o, none⟩) i c ((L.map Value.string).take i) rfl HST1.out (by rw [← List.map_take]; exact HON.out _) (by omega) (by omega) hxz ?_); intro v1 w1 hown hgr; obtain ⟨A1, k1, rfl⟩ := own_form1 hown; have HB1 : Hid (Below w.heap.size w w1) := HBX.out.trans ((Below.refl _ _).grown hgr hxz (fun k e => (HEMP.out.lt k e).1)); have HO1 := Lib.hid hown; rw [Nat.zero_add, List.nil_append] at HO1; have hc1 := HCE.out w1 HB1.out; clear hown hgr; try rw [Nat.zero_add]))
    all_goals
      go_wp2
      go_ret2
      exact ⟨rfl, HE.out⟩

end

end Go.Proofs.Ytkjcoengijedeab
