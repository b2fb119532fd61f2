/-
  The statement's closure that holds a mapped table's keys and values against a row (TableMaps$2); All's closure of a mapped table with it. Conditions: its boxes lie in memory as typed. The walk of TableMaps at any seed and any two scripts.
-/
import Derived.Test.YtcjoakbaldeaoaaTmC
import Derived.Test.YtcjoakbaldeaoaaTmA
import Derived.Test.YtcjoakbaldeaoaaTdA
import Derived.Test.YtcjoakbaldeaoaaTmF
namespace Go.Proofs.Ytcjoakbaldeaoaa
open Go.RowKit

section
set_option maxRecDepth 100000 in
set_option maxHeartbeats 8000000 in
theorem maps2_any {w : World} {Bw Bn Br c j : Nat} {A : Option Addr} {l : List (List UInt8 × Int)} {x : List UInt8 × Int} (h : AnyAt w Bw Bn Br A c l j) (hl : l.length ≤ 100000) (hx : l[j]? = some x) (K V : ByteArray) (hK : K.data.toList = x.1) (hV : V.data.toList = telK x.1) (hsz : x.1.length ≤ 1000) :
    Calls Try.prog 26 #[.string K, .string V, .pointer (some ⟨Br, 0, none⟩), .pointer (some ⟨Bn, 0, none⟩), .pointer (some ⟨Bw, 0, none⟩)] w fun e w' => e = .returned (.bool true) ∧ AnyAt w' Bw Bn Br A c l (j + 1) ∧ Below 0 w w' ∧ ∀ k, k ≠ Bn → k ≠ Br → w'.heap[k]? = w.heap[k]? := by
  have hj := (List.getElem?_eq_some_iff.1 hx).1
  obtain ⟨b, hr⟩ := h.row
  obtain ⟨g, rfl⟩ : ∃ g, A = some ⟨g, 0, none⟩ := by
    rcases hr.2 with ⟨q, q2⟩ | ⟨g, cap, cur, q, _⟩
    · omega
    · injection q with q
      exact ⟨g, q⟩
  have e0 := (World.ownsRow.cellAt hr (j * 2) (by omega)).trans (encIt_get KR.enc l j _ hx).1
  have hKK : (⟨x.1.toArray⟩ : ByteArray) = K := by rw [← hK]
  have HT : Hid (K ++ (⟨#[33]⟩ : ByteArray) = V) := by
    unfold Hid
    apply ByteArray.ext
    apply Array.toList_inj.1 ?_
    rw [hV]
    unfold telK
    rw [← hK]
    simp
  have hks : ¬ 9223372036854775807 < K.size + 1 := by
    have q : K.size = x.1.length := by rw [← hK]; show K.data.size = _; simp
    omega
  rw [hKK] at e0
  have hgl := World.block_lt_of_cell? w _ e0
  have hnr : Bn ≠ Br := fun e => by
    have h1 := h.n
    have h2 := h.right
    rw [e] at h1
    unfold Boxed at h1 h2
    rw [h1] at h2
    simp at h2
  have hnw : Bn ≠ Bw := fun e => by
    have h1 := h.n
    have h2 := h.want
    rw [e] at h1
    unfold Boxed at h1 h2
    rw [h1] at h2
    simp at h2
  have hrw : Br ≠ Bw := fun e => by
    have h1 := h.right
    have h2 := h.want
    rw [e] at h1
    unfold Boxed at h1 h2
    rw [h1] at h2
    simp at h2
  have hng : g ≠ Bn := fun e => h.n.not_row (by decide) hr (by rw [← e]; rfl)
  have hrg : g ≠ Br := fun e => h.right.not_row (by decide) hr (by rw [← e]; rfl)
  have ew := h.want.cell
  have en := h.n.cell
  have er := h.right.cell
  have fn := h.n.frozen
  have fr := h.right.frozen
  have HFIN : Hid (AnyAt ((w.setCell ⟨Br, 0, none⟩ (.bool true)).setCell ⟨Bn, 0, none⟩ (.int .i64 ((j + 1 : Nat) : Int))) Bw Bn Br (some ⟨g, 0, none⟩) c l (j + 1) ∧ Below 0 w ((w.setCell ⟨Br, 0, none⟩ (.bool true)).setCell ⟨Bn, 0, none⟩ (.int .i64 ((j + 1 : Nat) : Int))) ∧ ∀ k, k ≠ Bn → k ≠ Br → ((w.setCell ⟨Br, 0, none⟩ (.bool true)).setCell ⟨Bn, 0, none⟩ (.int .i64 ((j + 1 : Nat) : Int))).heap[k]? = w.heap[k]?) := by
    have keep : ∀ k, k ≠ Bn → k ≠ Br → ((w.setCell ⟨Br, 0, none⟩ (.bool true)).setCell ⟨Bn, 0, none⟩ (.int .i64 ((j + 1 : Nat) : Int))).heap[k]? = w.heap[k]? := fun k h1 h2 =>
      (Below.heap_setCell _ _ _ _ (show k ≠ Bn from h1)).trans (Below.heap_setCell _ _ _ _ (show k ≠ Br from h2))
    refine ⟨⟨box_same h.want (keep Bw hnw.symm hrw.symm), ?_, ?_, ⟨b, ownsRow_of_block hr (fun k hk => by
        injection hk with hk
        subst hk
        exact keep g hng hrg)⟩⟩, ((Below.refl 0 w).setCell (p := ⟨Br, 0, none⟩) (Nat.zero_le _) _).setCell (p := ⟨Bn, 0, none⟩) (Nat.zero_le _) _, keep⟩
    · exact (box_same h.n (Below.heap_setCell _ _ _ _ (show Bn ≠ Br from hnr))).set _
    · exact box_same (h.right.set (.bool true)) (Below.heap_setCell _ _ _ _ (show Br ≠ Bn from hnr.symm))
  have hjl : (j : Int) < (l.length : Int) := by omega
  have hwj : IntKind.i64.wrap ((j : Int) + 1) = ((j + 1 : Nat) : Int) := by rw [IntWalk.i64_in _ (by omega)]; omega
  obtain ⟨N, hN⟩ : ∃ N, l.length = N := ⟨_, rfl⟩
  rw [hN] at ew hjl hl
  have hjn : decide (j < N) = true := by simp; omega
  have hVV : (V.toList == V.toList) = true := by simp
  rw [← HT.out] at hVV ⊢
  clear h hr hN hKK hx hK hV
  go_enter Try.func26, Try.ntmps26
  go_wp2
  go_ret
  exact ⟨rfl, HFIN.out⟩

set_option maxRecDepth 100000 in
set_option maxHeartbeats 8000000 in
theorem all1_maps {w : World} {base Q A n0 seed m Bw Bn Br c : Nat} {ow : Own} {A' : Option Addr} {t : Tb (List UInt8)} {l0 : List (List UInt8 × Int)} {gA gB : Nat} {sA sB : Nat → Value} {AB : Option Addr} (h : P2 w base ow Q seed t gA sA gB sB AB) (hg : Fit m t) (hm : m ≤ 4000) (hks : KeysT (fun k => k.length ≤ 1000) t) (hkl : ∀ x ∈ l0, x.1.length ≤ 1000) (hkk : l0.map (·.1) = (allT t).map (·.1)) (hvv : ∀ x ∈ allT t, x.2 = telK x.1)
    (hA : w.cell? ⟨A, 0, none⟩ = some (.pointer (some ⟨Q, 0, none⟩))) (hx : AnyAt w Bw Bn Br A' c l0 0) (hn : n0 ≤ Bn) (hr : n0 ≤ Br) (hn0 : n0 ≤ w.heap.size) :
    Calls Try.prog 57 #[.func (.func 26) #[] #[.pointer (some ⟨Br, 0, none⟩), .pointer (some ⟨Bn, 0, none⟩), .pointer (some ⟨Bw, 0, none⟩)], .pointer (some ⟨A, 0, none⟩)] w fun e w' => e = .returned (.tuple #[]) ∧ AnyAt w' Bw Bn Br A' c l0 l0.length ∧ Below n0 w w' := by
  have HP := Lib.hid (pairs2S_any w h hg (by omega) hks)
  have hlen : (allT t).length < 5000 := by have := all_length hg.ct; have := hg.n; omega
  have hl0 : l0.length = (allT t).length := by have := congrArg List.length hkk; simpa using this
  have HBX := Lib.hid hx
  have hbl : Bw < w.heap.size ∧ Bn < w.heap.size ∧ Br < w.heap.size := ⟨hx.want.lt, hx.n.lt, hx.right.lt⟩
  have HL0 := Lib.hid hl0
  obtain ⟨l, hl⟩ : ∃ l, allT t = l := ⟨_, rfl⟩
  rw [hl] at HP hlen hkk HL0 hvv
  have HVV := Lib.hid hvv
  have HKK := Lib.hid hkk
  have HKL := Lib.hid hkl
  obtain ⟨N, hN⟩ : ∃ N, l.length = N := ⟨_, rfl⟩
  have HN := Lib.hid hN
  clear h hg hks hx hl hkl hkk hl0 hvv
  go_enter Try.func57, Try.ntmps57
  go_wp2_with fail
  refine HP.out.mono ?_
  rintro e w2 ⟨vp, rfl, hrow, hb2⟩
  obtain ⟨Ap, cp, rfl⟩ := own_form hrow
  have HROW := Lib.hid hrow
  have HB2 := Lib.hid hb2
  have HBX2 := Lib.hid (HBX.out.below hb2)
  rw [hN] at HROW hlen ⊢
  clear hrow hb2 hN
  go_wp2_with fail
  go_loopw [8] (fun iv wr => ∃ (j : Nat), iv = .int .i64 j ∧ j ≤ N ∧ AnyAt wr Bw Bn Br A' c l0 j ∧ Below n0 w wr ∧ wr.ownsRow w.heap.size 90 2 (.slice Ap N cp) N (encIt KS.enc l) ∧ w2.heap.size ≤ wr.heap.size) (fun iv _ => N - (intOf iv).toNat)
  case atStart => exact ⟨0, rfl, by omega, HBX2.out, HB2.out.mono (by omega), HROW.out, Nat.le_refl _⟩
  case round =>
    obtain ⟨j, rfl, hj, hbxr, hbr, hpr, hsr⟩ := hrel
    by_cases hlt : j < N
    · obtain ⟨⟨k, n⟩, hx⟩ : ∃ x, l[j]? = some x := ⟨_, List.getElem?_eq_getElem (by rw [HN.out]; exact hlt)⟩
      obtain ⟨y, hy⟩ : ∃ y, l0[j]? = some y := ⟨_, List.getElem?_eq_getElem (by rw [HL0.out, HN.out]; exact hlt)⟩
      have hyk : y.1 = k := by
        have q := congrArg (fun z => z[j]?) HKK.out
        simp only [List.getElem?_map, hy, hx, Option.map_some, Option.some.injEq] at q
        exact q
      have hk : k.length ≤ 1000 := by rw [← hyk]; exact HKL.out y (List.mem_of_getElem? hy)
      obtain ⟨g, rfl⟩ : ∃ g, Ap = some ⟨g, 0, none⟩ := by
        rcases hpr.2 with ⟨q, q2⟩ | ⟨g, cap, cur, q, _⟩
        · omega
        · injection q with q
          exact ⟨g, q⟩
      have e0 := (World.ownsRow.cellAt hpr (j * 2) (by omega)).trans (encIt_get KS.enc l j _ hx).1
      have e1 := (World.ownsRow.cellAt hpr (j * 2 + 1) (by omega)).trans (encIt_get KS.enc l j _ hx).2
      obtain ⟨K, hK⟩ : ∃ K : ByteArray, (⟨k.toArray⟩ : ByteArray) = K := ⟨_, rfl⟩
      have hKd : K.data.toList = k := by rw [← hK]
      obtain ⟨V, hV⟩ : ∃ V : ByteArray, (⟨n.toArray⟩ : ByteArray) = V := ⟨_, rfl⟩
      have hVd : V.data.toList = telK k := by rw [← hV]; exact HVV.out (k, n) (List.mem_of_getElem? hx)
      dsimp only at e0
      replace e1 : wr.cell? ⟨g, j * 2 + 1, none⟩ = some (.string ⟨n.toArray⟩) := e1
      rw [hK] at e0
      rw [hV] at e1
      have hKs : K.size ≤ 1000 := by rw [← hK]; simpa [ByteArray.size] using hk
      have HCL := Lib.hid (fun X => clone_any K X (by omega))
      obtain ⟨wb, hwb⟩ : ∃ wb, wr.alloc (.cells #[.string K, .string V] 90) = wb := ⟨_, rfl⟩
      have hqb := heap_alloc_new wr (.cells #[.string K, .string V] 90)
      have hbb : Below wr.heap.size wr wb := by rw [← hwb]; exact (Below.refl _ _).alloc (Nat.le_refl _) _
      have hsb : wb.heap.size = wr.heap.size + 1 := by rw [← hwb]; simp
      rw [hwb] at hqb
      have hgl := World.block_lt_of_cell? wr _ e0
      have hgn : g ≠ Bn := fun e => hbxr.n.not_row (by decide) hpr (by rw [← e]; rfl)
      have hgr : g ≠ Br := fun e => hbxr.right.not_row (by decide) hpr (by rw [← e]; rfl)
      have hz0 := hbr.size
      have HST : Hid (∀ X, Below wb.heap.size wb X → X.cell? ⟨wr.heap.size, 0, none⟩ = some (.string K) ∧ X.cell? ⟨wr.heap.size, 1, none⟩ = some (.string V)) := fun X hX => by
        have hq := (hX.block wr.heap.size (by omega)).trans hqb
        exact ⟨by simp [World.cell?, hq], by simp [World.cell?, hq]⟩
      have HIT : Hid (∀ X, Below wb.heap.size wb X → Calls Try.prog 26 #[.string K, .string V, .pointer (some ⟨Br, 0, none⟩), .pointer (some ⟨Bn, 0, none⟩), .pointer (some ⟨Bw, 0, none⟩)] X fun e W' => e = .returned (.bool true) ∧ AnyAt W' Bw Bn Br A' c l0 (j + 1) ∧ Below n0 w W' ∧ W'.ownsRow w.heap.size 90 2 (.slice (some ⟨g, 0, none⟩) N cp) N (encIt KS.enc l) ∧ w2.heap.size ≤ W'.heap.size) := fun X hX => by
        have hX2 : Below wr.heap.size wr X := hbb.trans (hX.mono (by omega))
        refine (maps2_any (hbxr.below hX2) (by have := HL0.out; have := HN.out; omega) hy K V (by rw [hKd, hyk]) (by rw [hVd, hyk]) (by rw [hyk]; exact hk)).mono ?_
        rintro e W' ⟨rfl, q1, q2, q3⟩
        have hXs := hX2.size
        refine ⟨rfl, q1, ⟨q2.os.trans (hX2.os.trans hbr.os), q2.tape.trans (hX2.tape.trans hbr.tape), q2.output.trans (hX2.output.trans hbr.output), Nat.le_trans hbr.size (Nat.le_trans hXs q2.size), fun i hi => (q3 i (by omega) (by omega)).trans ((hX2.block i (by omega)).trans (hbr.block i hi))⟩, ownsRow_of_block hpr (fun b hb => ?_), Nat.le_trans hsr (Nat.le_trans hXs q2.size)⟩
        injection hb with hb
        subst hb
        exact (q3 g hgn hgr).trans (hX2.block g hgl)
      have HWB := Lib.hid hwb
      obtain ⟨M, hM⟩ : ∃ M, wr.heap.size = M := ⟨_, rfl⟩
      rw [hM] at HST
      have HM := Lib.hid hM
      obtain ⟨y0, y1⟩ := HST.out wb (Below.refl _ _)
      have hcp : N ≤ 9223372036854775807 := by omega
      clear hqb hbb hsb hbxr hbr hpr hx hy hk hK hKd hV hVd hyk hwb hM HN HROW HBX2 hsr hz0 hgn hgr
      go_wp2_with fail
      rw [HWB.out, HM.out]
      apply by_w (F := fun W' => AnyAt W' Bw Bn Br A' c l0 (j + 1) ∧ Below n0 w W' ∧ W'.ownsRow w.heap.size 90 2 (.slice (some ⟨g, 0, none⟩) N cp) N (encIt KS.enc l) ∧ w2.heap.size ≤ W'.heap.size)
      case h1 =>
        intro HFIN
        go_region_law (first
          | (have qq := HX4; go_simp; go_at_call 26; refine (HIT.out _ (by first | exact HX4.out | exact HX4.out.drew)).mono ?_; rintro en w5 ⟨rfl, hv5⟩; have HV5 := Lib.hid hv5; clear hv5)
          | (go_simp; go_at_call 59; refine (HCL.out _).mono ?_; rintro en w4 ⟨rfl, hb4⟩; have HX4 : Hid (Below wb.heap.size wb w4) := (by first | exact hb4 | exact (Below.refl wb.heap.size wb).drew.trans hb4); obtain ⟨x0, x1⟩ := HST.out w4 HX4.out; clear hb4))
        all_goals
          exact HFIN.out w5 HV5.out
      case h2 =>
        intro wf hround
        have HR := Lib.hid hround
        clear hround y0 y1 e0 e1
        go_wp2
        go_roundw
        case rel =>
          obtain ⟨q1, q2, q3, q4⟩ := HR.out
          exact ⟨j + 1, by go_num, by omega, q1, q2, q3, q4⟩
        case measure => simp only [intOf]; omega
    · obtain rfl : j = N := by omega
      have HE : Hid (l0.length = j) := by unfold Hid; rw [HL0.out, HN.out]
      have HQ := Lib.hid hbxr
      have HQ3 := Lib.hid hbr
      clear hbxr hbr hpr
      go_wp2_with fail
      go_end0
      rw [HE.out]
      exact ⟨rfl, HQ.out, HQ3.out⟩
end

section
theorem rowV_form (g n : Nat) : ∃ (R : Option Addr) (c : Nat), rowV g n = .slice R n c := by
  unfold rowV
  split
  · rename_i h
    subst h
    exact ⟨none, 0, rfl⟩
  · exact ⟨_, _, rfl⟩

/-- Package table's table, the document's, and the mapped one: the first one shares nothing with the others. -/
structure MapsOn (W w : World) (b1 b2 b3 : Nat) (o1 o2 o3 : Own) (Q1 Q2 Q3 seed : Nat) (t r : Tb Int) (u : Tb (List UInt8)) (GA GB : Nat) (SA SB : Nat → Value) (AB : Option Addr) : Prop where
  t : ∃ gA sA gB sB, PT KI w b1 o1 Q1 67 seed t gA sA gB sB
  r : ∃ gA sA gB sB, RT w b2 o2 Q2 seed r gA sA gB sB
  u : P2 w b3 o3 Q3 seed u GA SA GB SB AB
  nr : ∀ k, o2 k ≠ none → o1 k = none
  nu : ∀ k, o3 k ≠ none → o1 k = none
  l1 : W.heap.size ≤ b1
  bel : Below W.heap.size W w

section
variable {W w w' : World} {b1 b2 b3 Q1 Q2 Q3 seed GA GB : Nat} {o1 o2 o3 o1' : Own} {t t' r : Tb Int} {u : Tb (List UInt8)} {SA SB : Nat → Value} {AB : Option Addr}

theorem MapsOn.below (h : MapsOn W w b1 b2 b3 o1 o2 o3 Q1 Q2 Q3 seed t r u GA GB SA SB AB) (hb : Below w.heap.size w w') : MapsOn W w' b1 b2 b3 o1 o2 o3 Q1 Q2 Q3 seed t r u GA GB SA SB AB := by
  obtain ⟨_, _, _, _, ht⟩ := h.t
  obtain ⟨_, _, _, _, hr⟩ := h.r
  exact ⟨⟨_, _, _, _, ht.below' hb⟩, ⟨_, _, _, _, TbOn.below hr hb⟩, h.u.below hb, h.nr, h.nu, h.l1, h.bel.trans (hb.mono h.bel.size)⟩

theorem MapsOn.tstep (h : MapsOn W w b1 b2 b3 o1 o2 o3 Q1 Q2 Q3 seed t r u GA GB SA SB AB) (h1 : ∃ gA sA gB sB, PT KI w' b1 o1' Q1 67 seed t' gA sA gB sB) (h2 : Turns o1 o1' w w') : MapsOn W w' b1 b2 b3 o1' o2 o3 Q1 Q2 Q3 seed t' r u GA GB SA SB AB := by
  obtain ⟨_, _, _, _, ht⟩ := h.t
  obtain ⟨_, _, _, _, hr⟩ := h.r
  refine ⟨h1, ⟨_, _, _, _, TbOn.beside hr h2 h.nr⟩, h.u.beside h2 h.nu, fun k hk => ?_, fun k hk => ?_, h.l1, h.bel.trans (h2.below h.bel.size (fun k hk => Nat.le_trans h.l1 (TbOn.dom ht k hk).1))⟩
  · rw [h2.same k (TbOn.dom hr k hk).2]
    exact h.nr k hk
  · rw [h2.same k (h.u.1.dom k hk).2]
    exact h.nu k hk
end

theorem all_telK (t : Tb Int) : (allT t).map (·.1) = (allT (keyT telK t)).map (·.1) ∧ ∀ x ∈ allT (keyT telK t), x.2 = telK x.1 := by
  rw [all_key]
  unfold keyL
  refine ⟨by rw [List.map_map]; rfl, fun x hx => ?_⟩
  obtain ⟨y, _, rfl⟩ := List.mem_map.1 hx
  rfl

set_option maxRecDepth 100000 in
set_option maxHeartbeats 32000000 in
theorem tableMaps_any (x : Int) (hlo : 0 ≤ x) (hhi : x ≤ 18446744073709551615) {A : Option Addr} {len cap g o : Nat} {L : List Op4} {A2 : Option Addr} {len2 cap2 g2 o2 : Nat} {M : List Op4} (W : World) (hL : ScrAt W A len cap g o L) (hM : ScrAt W A2 len2 cap2 g2 o2 M) :
    Calls Try.prog 5 #[.int .u64 x, .slice A len cap, .slice A2 len2 cap2] W fun e W' => e = .returned (.bool true) ∧ Below W.heap.size W W' := by
  obtain ⟨seed, rfl⟩ : ∃ n : Nat, x = (n : Int) := ⟨x.toNat, by omega⟩
  have hmf : ∀ (fn : Fn) (first cap : Array Value) (w : World), (Instr.makeFunc fn first cap).run Try.prog w = .ok (.func fn first cap) w := fun _ _ _ _ => rfl
  have hseed : seed < 18446744073709551616 := by omega
  have HLL := Lib.hid hL
  have hle := hL.le
  have hmax := hL.max
  have HML := Lib.hid hM
  have hle2 := hM.le
  have hmax2 := hM.max
  have HNEW := Lib.hid (newI_any seed W)
  have HRN := Lib.hid (fun X => rnew_any seed X)
  clear hL hM hlo hhi
  go_enter Try.func5, Try.ntmps5
  go_wp2_with fail
  refine HNEW.out.mono ?_
  rintro e w1 ⟨Q, o1, gA, sA, gB, sB, rfl, hp, hb⟩
  have HB1 := Lib.hid hb
  have HP1 := Lib.hid hp
  clear hp hb
  go_wp2_with fail
  refine (HRN.out w1).mono ?_
  rintro e w2 ⟨Q2, p0, gA2, sA2, gB2, sB2, rfl, hr, hb2⟩
  have HT0 : Hid (TwoAt w2 W.heap.size w1.heap.size o1 p0 Q Q2 seed newT newT) := ⟨⟨gA, sA, gB, sB, HP1.out.below' hb2⟩, ⟨gA2, sA2, gB2, sB2, hr⟩, fun k hk => by
    cases hq : p0 k with
    | none => rfl
    | some y => exact absurd (TbOn.dom hr k (by rw [hq]; exact fun e => by cases e)).1 (by have := (TbOn.dom HP1.out k hk).2; omega)⟩
  have HB2 := Lib.hid (HB1.out.trans (hb2.mono HB1.out.size))
  have HW12 : Hid (W.heap.size ≤ w1.heap.size) := HB1.out.size
  clear hr hb2
  obtain ⟨b2, hb2⟩ : ∃ b, w1.heap.size = b := ⟨_, rfl⟩
  rw [hb2] at HT0 HW12
  clear hb2
  go_wp2_with fail
  go_loopw [9] (fun iv wr => ∃ (i : Nat) (p1 p2 : Own), iv = .int .i64 i ∧ i ≤ len ∧ i ≤ 200 ∧ TwoAt wr W.heap.size b2 p1 p2 Q Q2 seed (tabT seed (L.take i)) (tabT seed (L.take i)) ∧ Below W.heap.size W wr) (fun iv _ => len - (intOf iv).toNat)
  case atStart => exact ⟨0, o1, p0, rfl, by omega, by omega, by rw [List.take_zero]; exact HT0.out, HB2.out⟩
  case round =>
    obtain ⟨i, p1, p2, rfl, hi, hi2, ht0, hbr⟩ := hrel
    have HBR := Lib.hid hbr
    obtain ⟨t, ht⟩ : ∃ t, tabT seed (L.take i) = t := ⟨_, rfl⟩
    have HT := Lib.hid ht
    rw [ht] at ht0
    have HTW := Lib.hid ht0
    have HGD : Hid (Good (hashT seed) i t ∧ KeysT (fun k => k.length ≤ 1000) t) := by
      unfold Hid
      have q := tab_good seed (L.take i)
      rw [ht] at q
      exact ⟨q.1.mono (by rw [List.length_take]; omega), q.2⟩
    clear ht0 hbr ht
    by_cases hgo : i < len ∧ i < 200
    · obtain ⟨hlt, h200⟩ := hgo
      obtain ⟨op, hop⟩ : ∃ op, L[i]? = some op := ⟨_, List.getElem?_eq_getElem (by rw [HLL.out.len]; exact hlt)⟩
      obtain ⟨rfl, hg⟩ := HLL.out.at_ (by omega)
      obtain ⟨k0, k1, k2, k3⟩ := HLL.out.cells i op hop
      have HFIT := Lib.hid (HLL.out.fits op (List.mem_of_getElem? hop))
      have HTK : Hid (tabT seed (L.take (i + 1)) = actT seed t op.kind (cutK op.key).data.toList op.v) := by
        unfold Hid
        rw [List.take_add_one, hop, Option.toList_some, tabT_snoc, HT.out]
      obtain ⟨okd, okey, ov, odr⟩ := op
      dsimp only at k0 k1 k2 k3 HFIT HTK
      have e0 := (HBR.out.cell (p := ⟨g, o + i * 4, none⟩) hg).trans k0
      have e1 := (HBR.out.cell (p := ⟨g, o + i * 4 + 1, none⟩) hg).trans k1
      have e2 := (HBR.out.cell (p := ⟨g, o + i * 4 + 2, none⟩) hg).trans k2
      have e3 := (HBR.out.cell (p := ⟨g, o + i * 4 + 3, none⟩) hg).trans k3
      have hcc : cap ≤ 9223372036854775807 := hmax
      have hcl : len ≤ cap := hle
      clear k0 k1 k2 k3 hop
      have h200i : (i : Int) < 200 := by omega
      have h200b : decide ((i : Int) < 200) = true := by simpa using h200i
      have HACT := Lib.hid (act_any (m := i) pick_ok hseed HTW.out HGD.out.1 HGD.out.1 (by omega) HGD.out.2 HGD.out.2 okd ov okey HFIT.out.1 odr HFIT.out.2)
      go_wp2_with fail
      refine HACT.out.mono ?_
      rintro e w4 ⟨bb, q1, q2, rfl, -, ht4, hu4⟩
      have HT4 := Lib.hid ht4
      have HB4 : Hid (Below W.heap.size W w4) := HBR.out.trans (hu4.below HBR.out.size (fun q hq => by
        have hq2 := fun hn => hq (owU_none.2 hn)
        by_cases h1 : p1 q = none
        · have h2 : p2 q ≠ none := fun h => hq2 ⟨h1, h⟩
          exact Nat.le_trans HW12.out (HTW.out.dom2 h2).1
        · exact (HTW.out.dom1 h1).1))
      clear ht4 hu4 e0 e1 e2 e3
      go_wp2
      go_roundw
      case rel => exact ⟨i + 1, q1, q2, by go_num, by omega, by omega, by rw [HTK.out]; exact HT4.out, HB4.out⟩
      case measure => simp only [intOf]; omega
    · have hx : (i < len ∧ ¬ i < 200) ∨ ¬ i < len := by omega
      clear hgo
      rcases hx with ⟨hlt, h200⟩ | hlt
      all_goals first
        | have h200n : ¬ (i : Int) < 200 := by omega
          have h200b : decide ((i : Int) < 200) = false := by simpa using h200n
          have hin : (i : Int) < len := by omega
          go_wp2_with fail
        | have hin : ¬ (i : Int) < len := by omega
          go_wp2_with fail
      all_goals
        obtain ⟨wz, hwz⟩ : ∃ wz, wr.alloc (.cells #[.int .i64 0] 3) = wz := ⟨_, rfl⟩
        have hbz : Below wr.heap.size wr wz := by rw [← hwz]; exact (Below.refl _ _).alloc (Nat.le_refl _) _
        have hxz : Boxed wz wr.heap.size 3 (.int .i64 0) := by rw [← hwz]; exact Boxed.new wr _ _
        have hsz : wz.heap.size = wr.heap.size + 1 := by rw [← hwz]; simp
        rw [hwz]
        obtain ⟨⟨gA3, sA3, gB3, sB3, hp3⟩, ⟨gA5, sA5, gB5, sB5, hr3⟩, hap⟩ := HTW.out
        have HMAP := Lib.hid (map_any wz (hp3.below' hbz) HGD.out.1 (by omega) HGD.out.2 hxz)
        have HMK : Hid (∀ (w4 : World) (b3 Q3 : Nat) (o3 : Own) (GA : Nat) (SA : Nat → Value) (GB : Nat) (SB : Nat → Value) (AB : Option Addr), wz.heap.size ≤ b3 → P2 w4 b3 o3 Q3 seed (keyT telK t) GA SA GB SB AB → wz.grownBy w4 (some wr.heap.size) → MapsOn W w4 W.heap.size b2 b3 p1 p2 o3 Q Q2 Q3 seed t t (keyT telK t) GA GB SA SB AB) := by
          intro w4 b3 Q3 o3 GA SA GB SB AB h3 hu hgr
          have d1 : ∀ k, p1 k ≠ none → k < wr.heap.size := fun k hk => (TbOn.dom hp3 k hk).2
          have d2 : ∀ k, p2 k ≠ none → k < wr.heap.size := fun k hk => (TbOn.dom hr3 k hk).2
          have keep : ∀ k, k < wr.heap.size → w4.heap[k]? = wr.heap[k]? := fun k hk => (hgr.block k (by omega) (fun e => by injection e with e; omega)).trans (hbz.block k hk)
          have hs4 : wr.heap.size ≤ w4.heap.size := by have := hgr.size; omega
          refine ⟨⟨_, _, _, _, TbOn.keep hp3 hs4 (fun k hk => keep k (d1 k hk))⟩, ⟨_, _, _, _, TbOn.keep hr3 hs4 (fun k hk => keep k (d2 k hk))⟩, hu, fun k hk => ?_, fun k hk => ?_, Nat.le_refl _, ?_⟩
          · cases hq : p1 k with
            | none => rfl
            | some y => exact absurd (hap k (by rw [hq]; exact fun e => by cases e)) hk
          · cases hq : p1 k with
            | none => rfl
            | some y => exact absurd (d1 k (by rw [hq]; exact fun e => by cases e)) (by have := (hu.1.dom k hk).1; omega)
          · have hb := HBR.out
            exact ⟨hgr.os.trans (hbz.os.trans hb.os), hgr.tape.trans (hbz.tape.trans hb.tape), hgr.output.trans (hbz.output.trans hb.output), by have := hb.size; omega, fun k hk => (keep k (by have := hb.size; omega)).trans (hb.block k hk)⟩
        obtain ⟨G, hG⟩ : ∃ G, wr.heap.size = G := ⟨_, rfl⟩
        rw [hG] at HMAP HMK ⊢
        clear hwz hbz hxz hsz hp3 hr3 hap hG
        refine HMAP.out.mono ?_
        rintro e w4 ⟨b3, Q3, o3, GA, SA, GB, SB, AB, rfl, h3, hu3, hg4, hgr4⟩
        have HON := Lib.hid (HMK.out w4 b3 Q3 o3 GA SA GB SB AB h3 hu3 hgr4)
        have HLEN := Lib.hid (fun X (hX : Below w4.heap.size w4 X) => len2S_any X (hu3.below hX))
        obtain ⟨_, _, _, _, hr4⟩ := HON.out.r
        have n4 : w4.cell? ⟨Q2, 4, none⟩ = some (.int .i64 t.n) := hr4.hd.cell (by omega)
        have hQ2 := World.block_lt_of_cell? w4 _ n4
        have g4 := hg4.cell
        have hGl := hg4.lt
        rw [show (keyT telK t).n = t.n from rfl] at HLEN
        obtain ⟨tn, htn⟩ : ∃ n, t.n = n := ⟨_, rfl⟩
        rw [htn] at n4 g4 HLEN
        have HN4 : Hid (∀ X, Below w4.heap.size w4 X → X.cell? ⟨Q2, 4, none⟩ = some (.int .i64 tn)) := fun X hX => (hX.cell (p := ⟨Q2, 4, none⟩) hQ2).trans n4
        have HKS : Hid (∀ X, Below w4.heap.size w4 X → Below w4.heap.size w4 X ∧ X.cell? ⟨G, 0, none⟩ = some (.int .i64 tn) ∧ X.cell? ⟨Q2, 4, none⟩ = some (.int .i64 tn)) := fun X hX => ⟨hX, (hX.cell (p := ⟨G, 0, none⟩) hGl).trans g4, HN4.out X hX⟩
        clear hu3 hgr4 hr4 hg4 h3 htn
        go_wp2_with fail
        go_region_held3 (fun X => Below w4.heap.size w4 X ∧ X.cell? ⟨G, 0, none⟩ = some (.int .i64 tn) ∧ X.cell? ⟨Q2, 4, none⟩ = some (.int .i64 tn))
          (first | exact HKS.out _ HB5.out | exact HKS.out _ (Below.refl _ _).drew | exact HKS.out _ (Below.refl _ _))
          ((go_at_call 24; refine Calls.mono (HLEN.out _ (by first | exact (Below.refl _ _).drew | exact Below.refl _ _)) ?_; rintro en w5 ⟨rfl, hb5⟩; have HB5 : Hid (Below w4.heap.size w4 w5) := (by first | exact hb5 | exact (Below.refl w4.heap.size w4).drew.trans hb5); clear hb5))
        have HON5 := Lib.hid (HON.out.below HB5.out)
        clear n4 g4 hGl hQ2
        go_wp2_with fail
        go_loopw [12] (fun iv wr => ∃ (n : Nat) (o1' : Own) (t' : Tb Int), iv = .int .i64 n ∧ n ≤ len2 ∧ n ≤ 50 ∧ MapsOn W wr W.heap.size b2 b3 o1' p2 o3 Q Q2 Q3 seed t' t (keyT telK t) GA GB SA SB AB ∧ Good (hashT seed) (i + n) t' ∧ KeysT (fun k => k.length ≤ 1000) t') (fun iv _ => len2 - (intOf iv).toNat)
        case atStart => exact ⟨0, p1, t, rfl, by omega, by omega, HON5.out, HGD.out.1, HGD.out.2⟩
        case round =>
          obtain ⟨n, o1', t', rfl, hn, hn2, hon, hgd, hks⟩ := hrel
          have HO := Lib.hid hon
          have HGT := Lib.hid (And.intro hgd hks)
          clear hon hgd hks
          by_cases hgo : n < len2 ∧ n < 50
          · obtain ⟨hlt2, h50⟩ := hgo
            obtain ⟨op, hop⟩ : ∃ op, M[n]? = some op := ⟨_, List.getElem?_eq_getElem (by rw [HML.out.len]; exact hlt2)⟩
            obtain ⟨rfl, hg⟩ := HML.out.at_ (by omega)
            obtain ⟨k0, k1, k2, k3⟩ := HML.out.cells n op hop
            have HFIT := Lib.hid (HML.out.fits op (List.mem_of_getElem? hop))
            obtain ⟨okd, okey, ov, odr⟩ := op
            dsimp only at k0 k1 k2 k3 HFIT
            have HCL : Hid (∀ X, Below wr.heap.size wr X → X.cell? ⟨g2, o2 + n * 4, none⟩ = some (.int .i64 okd) ∧ X.cell? ⟨g2, o2 + n * 4 + 1, none⟩ = some (.string okey) ∧ X.cell? ⟨g2, o2 + n * 4 + 2, none⟩ = some (.int .i64 ov) ∧ X.cell? ⟨g2, o2 + n * 4 + 3, none⟩ = some (.int .u64 odr)) := fun X hX =>
              have hb := HO.out.bel.trans (hX.mono HO.out.bel.size)
              ⟨(hb.cell (p := ⟨g2, o2 + n * 4, none⟩) hg).trans k0, (hb.cell (p := ⟨g2, o2 + n * 4 + 1, none⟩) hg).trans k1, (hb.cell (p := ⟨g2, o2 + n * 4 + 2, none⟩) hg).trans k2, (hb.cell (p := ⟨g2, o2 + n * 4 + 3, none⟩) hg).trans k3⟩
            obtain ⟨e0, e1, e2, e3⟩ := HCL.out wr (Below.refl _ _)
            have hcc : cap2 ≤ 9223372036854775807 := hmax2
            have hcl : len2 ≤ cap2 := hle2
            clear k0 k1 k2 k3 hop
            have h50i : (n : Int) < 50 := by omega
            have h50b : decide ((n : Int) < 50) = true := by simpa using h50i
            obtain ⟨gA6, sA6, gB6, sB6, hp6⟩ := HO.out.t
            have HP6 := Lib.hid hp6
            have hmb : i + n ≤ 50000 := by omega
            clear hp6
            go_wp2_with fail
            have HACT := Lib.hid (fun (X : World) (Q9 : Nat) (o9 : Own) (gA2 : Nat) (sA2 : Nat → Value) (gB2 : Nat) (sB2 : Nat → Value) (hX : Below wr.heap.size wr X) (hr : RT X wr.heap.size o9 Q9 seed newT gA2 sA2 gB2 sB2) => act_fresh hseed HP6.out hX hr HGT.out.1 hmb HGT.out.2 okd ov okey HFIT.out.1 odr HFIT.out.2)
            apply by_two (F := fun _ v X => (∃ b : Bool, v = .bool b) ∧ ∃ o1'' gA' sA' gB' sB', PT KI X W.heap.size o1'' Q 67 seed (actT seed t' okd (cutK okey).data.toList ov) gA' sA' gB' sB' ∧ Turns o1' o1'' wr X)
            case h1 =>
              intro HFIN
              go_region_law (first
                | (have qq := HQ2; go_simp; go_at_call 16; refine (HACT.out _ _ _ _ _ _ _ (by first | exact HX2.out | exact HX2.out.drew) (by first | exact HQ2.out | exact HQ2.out.below' (Below.refl _ _).drew)).mono ?_; rintro en w7 ⟨bb, rfl, o7, gA7, sA7, gB7, sB7, hT7, hu7⟩; have HT7 := Lib.hid hT7; have HU7 := Lib.hid hu7; clear hT7 hu7)
                | (go_simp; go_at_call 15; refine (HRN.out _).mono ?_; rintro en w6 ⟨Q9, o9, gA9, sA9, gB9, sB9, rfl, hr9, hb9⟩; have HX2 : Hid (Below wr.heap.size wr w6) := (by first | exact hb9 | exact (Below.refl wr.heap.size wr).drew.trans hb9); have HQ2 : Hid (RT w6 wr.heap.size o9 Q9 seed newT gA9 sA9 gB9 sB9) := (by first | exact hr9); obtain ⟨y0, y1, y2, y3⟩ := HCL.out w6 HX2.out; clear hr9 hb9))
              all_goals
                have HROUND := (⟨⟨_, rfl⟩, _, _, _, _, _, HT7.out, HU7.out⟩ : (∃ b : Bool, Value.bool bb = .bool b) ∧ ∃ o1'' gA' sA' gB' sB', PT KI w7 W.heap.size o1'' Q 67 seed (actT seed t' okd (cutK okey).data.toList ov) gA' sA' gB' sB' ∧ Turns o1' o1'' wr w7)
                obtain ⟨v9, hv9⟩ : ∃ v9, Value.bool bb = v9 := ⟨_, rfl⟩
                rw [hv9] at HROUND ⊢
                obtain ⟨v8, hv8⟩ : ∃ v8, Value.pointer (some ⟨Q9, 0, none⟩) = v8 := ⟨_, rfl⟩
                rw [hv8]
                exact HFIN.out v8 v9 w7 HROUND
            case h2 =>
              intro v8 v9 wf hround
              obtain ⟨⟨bb, rfl⟩, o5, gA5, sA5, gB5, sB5, hp5, hu5⟩ := hround
              have HNEXT := Lib.hid (HO.out.tstep ⟨_, _, _, _, hp5⟩ hu5)
              clear hp5 hu5 e0 e1 e2 e3
              go_wp2
              go_roundw
              case rel => exact ⟨n + 1, o5, _, by go_num, by omega, by omega, HNEXT.out, good_act HGT.out.1 _ _ _, keys_act HGT.out.2 _ _ (cut_len _) _⟩
              case measure => simp only [intOf]; omega
          · have hx2 : (n < len2 ∧ ¬ n < 50) ∨ ¬ n < len2 := by omega
            clear hgo
            obtain ⟨gA6, sA6, gB6, sB6, hr6⟩ := HO.out.r
            have HALR := Lib.hid (rallT_any wr hr6 HGD.out.1 (by omega))
            have hposA := HGD.out.1.kept.pos
            have c1 : wr.cell? ⟨Q2, 1, none⟩ = some (rowV gA6 t.A.length) := hr6.hd.cell (by omega)
            have c2 : wr.cell? ⟨Q2, 2, none⟩ = some (rowV gB6 t.B.length) := hr6.hd.cell (by omega)
            have c3 : wr.cell? ⟨Q2, 3, none⟩ = some (.int .i64 t.moved) := hr6.hd.cell (by omega)
            have hQ2 := World.block_lt_of_cell? wr _ c1
            have HSZ := Lib.hid (fun X (hX : Below wr.heap.size wr X) => sizes2S_any X (HO.out.u.below hX))
            have HUX := Lib.hid (fun X (hX : Below wr.heap.size wr X) => HO.out.u.below hX)
            have HFK := Lib.hid (HGD.out.1.fit.key telK)
            have HKK := Lib.hid (keys_keyT telK HGD.out.2)
            have HTL := Lib.hid (all_telK t)
            have HKL := Lib.hid (keys_all HGD.out.2)
            have hlen4 : (allT t).length ≤ 100000 := by have := all_length HGD.out.1.cnt; have := HGD.out.1.n; omega
            have HALV := Lib.hid (fun X => alive_any X)
            have HAS := Lib.hid (fun X => allS_any (some ⟨Q3, 0, none⟩) X)
            have HBL := Lib.hid HO.out.bel
            have hm40 : i ≤ 4000 := by omega
            rw [show (keyT telK t).A.length = t.A.length from keyR_length _ _, show (keyT telK t).B.length = t.B.length from keyR_length _ _, show (keyT telK t).moved = t.moved from rfl] at HSZ
            have HALL := Lib.hid (fun X A Bx Ai ci (hX : Below wr.heap.size wr X) (hA : X.cell? ⟨A, 0, none⟩ = some (.pointer (some ⟨Q3, 0, none⟩))) (hx : AnyAt X Bx (Bx + 1) (Bx + 1 + 1) Ai ci (allT t) 0) (hz : Bx ≤ X.heap.size) => all1_maps (n0 := Bx) (HUX.out X hX) HFK.out hm40 HKK.out HKL.out HTL.out.1 HTL.out.2 hA hx (by omega) (by omega) hz)
            obtain ⟨l, hl⟩ : ∃ l, allT t = l := ⟨_, rfl⟩
            rw [hl] at HALR HALL hlen4
            obtain ⟨na, hna⟩ : ∃ n, t.A.length = n := ⟨_, rfl⟩
            obtain ⟨nb, hnb⟩ : ∃ n, t.B.length = n := ⟨_, rfl⟩
            obtain ⟨nm, hnm⟩ : ∃ n, t.moved = n := ⟨_, rfl⟩
            rw [hna, hnb, hnm] at HSZ
            rw [hna] at c1
            rw [hnb] at c2
            rw [hnm] at c3
            obtain ⟨Ra, hRa, ha1⟩ := rowV_form gA6 na
            obtain ⟨Rb, hRb, hb1⟩ := rowV_form gB6 nb
            rw [ha1] at c1
            rw [hb1] at c2
            have HC : Hid (∀ X, Below wr.heap.size wr X → X.cell? ⟨Q2, 1, none⟩ = some (.slice Ra na hRa) ∧ X.cell? ⟨Q2, 2, none⟩ = some (.slice Rb nb hRb) ∧ X.cell? ⟨Q2, 3, none⟩ = some (.int .i64 nm)) := fun X hX =>
              ⟨(hX.cell (p := ⟨Q2, 1, none⟩) hQ2).trans c1, (hX.cell (p := ⟨Q2, 2, none⟩) hQ2).trans c2, (hX.cell (p := ⟨Q2, 3, none⟩) hQ2).trans c3⟩
            have hng : ∀ (W : World) (f : Fn) (a b : Array Value), (binOp .eql 50 (.func f a b) .nilFunc).run Try.prog W = .ok (.bool false) W := fun _ _ _ _ => by first | rfl | kernel_rfl
            clear hl hna hnb hnm ha1 hb1 c1 c2 c3 hr6 hQ2 hposA
            rcases hx2 with ⟨hlt2, h50⟩ | hlt2
            all_goals first
              | have h50n : ¬ (n : Int) < 50 := by omega
                have h50b : decide ((n : Int) < 50) = false := by simpa using h50n
                have hin2 : (n : Int) < len2 := by omega
                go_wp2_with fail
              | have hin2 : ¬ (n : Int) < len2 := by omega
                go_wp2_with fail
            all_goals
              refine HALR.out.mono ?_
              rintro e w5 ⟨vi, rfl, hri, hb5⟩
              obtain ⟨Ai, ci, rfl⟩ := own_form hri
              go_wp2_with fail
              obtain ⟨wA, hwA⟩ : ∃ wA, w5.alloc (.cells #[.slice Ai l.length ci] 42) = wA := ⟨_, rfl⟩
              obtain ⟨wB, hwB⟩ : ∃ wB, wA.alloc (.cells #[.int .i64 0] 3) = wB := ⟨_, rfl⟩
              obtain ⟨wC, hwC⟩ : ∃ wC, wB.alloc (.cells #[.bool true] 4) = wC := ⟨_, rfl⟩
              have zA : wA.heap.size = w5.heap.size + 1 := by rw [← hwA]; simp
              have zB : wB.heap.size = w5.heap.size + 1 + 1 := by rw [← hwB]; simp [zA]
              have zC : wC.heap.size = w5.heap.size + 1 + 1 + 1 := by rw [← hwC]; simp [zB]
              have bA : Boxed wA w5.heap.size 42 (.slice Ai l.length ci) := by rw [← hwA]; exact Boxed.new w5 _ _
              have bB : Boxed wB (w5.heap.size + 1) 3 (.int .i64 0) := by rw [← hwB, ← zA]; exact Boxed.new wA _ _
              have bC : Boxed wC (w5.heap.size + 1 + 1) 4 (.bool true) := by rw [← hwC, ← zB]; exact Boxed.new wB _ _
              have bB2 : Boxed wC (w5.heap.size + 1) 3 (.int .i64 0) := by rw [← hwC]; exact bB.alloc _
              have bA2 : Boxed wC w5.heap.size 42 (.slice Ai l.length ci) := by rw [← hwC, ← hwB]; exact (bA.alloc _).alloc _
              have uA : Below w5.heap.size w5 wA := by rw [← hwA]; exact (Below.refl _ _).alloc (Nat.le_refl _) _
              have uB : Below w5.heap.size w5 wB := by rw [← hwB]; exact uA.alloc (by omega) _
              have uC : Below w5.heap.size w5 wC := by rw [← hwC]; exact uB.alloc (by omega) _
              have hAN : AnyAt wC w5.heap.size (w5.heap.size + 1) (w5.heap.size + 1 + 1) Ai ci l 0 := ⟨bA2, bB2, bC, ⟨_, ownsRow_of_block hri (fun b hb => uC.block b (hri.lt b hb).2)⟩⟩
              rw [hwA, hwB, hwC]
              have z5 := hb5.size
              have HBC := Lib.hid (hb5.trans (uC.mono z5))
              obtain ⟨B5, hB5⟩ : ∃ B, w5.heap.size = B := ⟨_, rfl⟩
              rw [hB5] at hAN zC z5
              rw [hB5]
              have HAN := Lib.hid hAN
              obtain ⟨N, hN⟩ : ∃ N, l.length = N := ⟨_, rfl⟩
              have HN := Lib.hid hN
              have hz5 : wr.heap.size ≤ B5 := z5
              have hzC : B5 ≤ wC.heap.size := by omega
              clear hwA hwB hwC zA zB bA bB bC bB2 bA2 uA uB uC hAN hri hb5 hB5 hN zC z5
              refine (HAS.out wC).mono ?_
              rintro e w7 ⟨rfl, hw7⟩
              have hb7 : Below wC.heap.size wC w7 := by rw [hw7]; exact (Below.refl _ _).alloc (Nat.le_refl _) _
              have hc7 : w7.cell? ⟨wC.heap.size, 0, none⟩ = some (.pointer (some ⟨Q3, 0, none⟩)) := by
                have q := heap_alloc_new wC (.cells #[.pointer (some ⟨Q3, 0, none⟩)] 46)
                rw [← hw7] at q
                simp [World.cell?, q]
              have HB7 := Lib.hid (HBC.out.trans (hb7.mono HBC.out.size))
              have HCALL := Lib.hid (HALL.out w7 _ _ _ _ HB7.out hc7 (HAN.out.below hb7) (Nat.le_trans hzC hb7.size))
              clear hw7 hb7 hc7
              go_wp2_with fail
              refine HCALL.out.mono ?_
              rintro e w8 ⟨rfl, q1, q2⟩
              have HAN8 := Lib.hid q1
              have HB8 := Lib.hid (HB7.out.trans (q2.mono hz5))
              clear q1 q2
              go_wp2_with fail
              refine (HSZ.out w8 HB8.out).mono ?_
              rintro e w10 ⟨rfl, hb10⟩
              have HAN10 := Lib.hid (HAN8.out.below hb10)
              have HB10 := Lib.hid (HB8.out.trans (hb10.mono HB8.out.size))
              clear hb10
              have c1 := HAN10.out.right.cell
              have c2 := HAN10.out.n.cell
              have c3 := HAN10.out.want.cell
              obtain ⟨c4, c5, c6⟩ := HC.out w10 HB10.out
              rw [HN.out] at c2 c3
              go_wp2_with fail
              refine (HALV.out w10).mono ?_
              rintro e w11 ⟨rfl, hb11⟩
              have HB11 := Lib.hid (HB10.out.trans (hb11.mono HB10.out.size))
              clear hb11
              go_wp2
              go_ret
              exact ⟨rfl, HBL.out.trans (HB11.out.mono HBL.out.size)⟩
end

end Go.Proofs.Ytcjoakbaldeaoaa
