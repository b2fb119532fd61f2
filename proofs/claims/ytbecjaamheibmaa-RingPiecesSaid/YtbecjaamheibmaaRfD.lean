/-
  The document's ring: the walk of Feed. Conditions: the ring lies in memory as typed; what is fed lies elsewhere, and is short.
-/
import Derived.Test.YtbecjaamheibmaaRfC
namespace Go.Proofs.Ytbecjaamheibmaa
open Go.RowKit

section
variable {w w' : World} {base q s : Nat} {G : Nat → Prop} {h : Hst} {X : Tx}

set_option maxRecDepth 100000 in
set_option maxHeartbeats 8000000 in
theorem rfeed_any {n c : Nat} {b : Tx} {A : Option Addr} (w : World) (H : RfOn w base G q s h X) (hb : ByAt w A n c b) (hbG : ∀ g o, 0 < n → A = some ⟨g, o, none⟩ → g ≠ q) (hn : n ≤ 1000000) :
    Calls Try.prog 29 #[.pointer (some ⟨q, 0, none⟩), .slice A n c] w fun e w' => e = .returned (.int .i64 (fdE h n)) ∧ RfTo w base G q s (fdH h n) (fdX h X b) w' := by
  have hnl := hb.len
  have hnc := hb.le
  have hcm := hb.max
  obtain ⟨A0, n0, c0', hn0, hB, c0, c1, c2, c3, c4, c5, hf⟩ := H.cells
  have f1 := hf 1
  have f5 := hf 5
  have HNO : Hid (RfTo w base G q s h X w) := ⟨G, H, Chg.refl G w⟩
  have ho2 := H.o2
  have hxo := H.xo
  have hs2 := H.s2
  have hw : IntKind.i64.wrap (1125899906842624 - h.off) = 1125899906842624 - h.off := IntWalk.i64_in _ (by omega)
  unfold fdE fdH fdX
  rw [hnl]
  by_cases hlt : 1125899906842624 - h.off < (n : Int)
  · rw [if_pos hlt, if_pos hlt, if_pos hlt]
    obtain ⟨off, hof⟩ : ∃ o, h.off = o := ⟨_, rfl⟩
    rw [hof] at hw c1 hlt
    clear c0 c2 c3 c4 c5 H hb hnl hxo ho2 hof hB hf hn0
    go_enter Try.func29, Try.ntmps29
    go_wp2
    go_ret
    exact ⟨rfl, HNO.out⟩
  · rw [if_neg hlt, if_neg hlt, if_neg hlt]
    have hltb : decide (1125899906842624 - h.off < (n : Int)) = false := by simpa using hlt
    obtain ⟨ip, hip, hyp⟩ := Option.map_eq_some_iff.1 info_by
    simp only [Prod.mk.injEq] at hyp
    have HIP := Lib.hid hyp
    have HIQ := Lib.hid hip
    have hwa : IntKind.i64.wrap (h.off + (n : Int)) = h.off + (n : Int) := IntWalk.i64_in _ (by omega)
    obtain ⟨w1, hw1⟩ : ∃ w1, w.setCell ⟨q, 1, none⟩ (.int .i64 (h.off + n)) = w1 := ⟨_, rfl⟩
    obtain ⟨wx, hwx⟩ : ∃ wx, w1.alloc (.cells #[] 5) = wx := ⟨_, rfl⟩
    have hz1 : w1.heap.size = w.heap.size := by rw [← hw1]; simp
    have ho1 : Only (· = q) w w1 := by rw [← hw1]; exact (Only.refl (· = q) w).set (q := ⟨q, 1, none⟩) rfl _
    have hbx : Below w1.heap.size w1 wx := by rw [← hwx]; exact (Below.refl _ _).alloc (Nat.le_refl _) _
    have hE : EmpAt wx w1.heap.size w1.heap.size := by rw [← hwx]; exact EmpAt.new w1 _ (Nat.le_refl _)
    have HEMP := Lib.hid hE.own
    have hxz := hE.2.1
    have hQl := H.lt
    have hB1 : ByAt w1 A0 n0 c0' (lastN s X) := by
      obtain ⟨A', n', c', hp, hb', hG⟩ := H.mem
      have q5 := hp.cell (i := 5) (by omega)
      rw [c5] at q5
      injection q5 with q5
      injection q5 with e1 e2 e3
      subst e1 e2 e3
      exact hB.only ho1 (fun g o h0 e q => (hG g o h0 e).2 q)
    have hb1 : ByAt w1 A n c b := hb.only ho1 (fun g o h0 e q => hbG g o h0 e q)
    have HBX := Lib.hid (hB1.below hbx)
    have Hb1 := Lib.hid hb1
    have HBB := Lib.hid hbx
    obtain ⟨N, hN⟩ : ∃ N, n0 + n = N := ⟨_, rfl⟩
    have d4 : w1.cell? ⟨q, 4, none⟩ = some (.int .i64 s) := by rw [← hw1, World.cell?_setCell_other _ _ _ _ (by simp)]; exact c4
    have d5 : w1.cell? ⟨q, 5, none⟩ = some (.slice A0 n0 c0') := by rw [← hw1, World.cell?_setCell_other _ _ _ _ (by simp)]; exact c5
    have e5 : wx.cell? ⟨q, 5, none⟩ = some (.slice A0 n0 c0') := (hbx.cell (p := ⟨q, 5, none⟩) (by rw [hz1]; exact hQl)).trans d5
    have HEND : Hid (∀ w4 A5 n5 k5, Below w.heap.size w1 w4 → ByAt w4 A5 n5 k5 (lastN s (X ++ b)) → (∀ g o, 0 < n5 → A5 = some ⟨g, o, none⟩ → w.heap.size ≤ g ∧ g < w4.heap.size) → w4.cell? ⟨q, 5, none⟩ = some (.slice A0 n0 c0') ∧ w4.frozen? ⟨q, 5, none⟩ = false ∧ w4.cell? ⟨q, 4, none⟩ = some (.int .i64 s) ∧ RfTo w base G q s { h with off := h.off + n } (X ++ b) (w4.setCell ⟨q, 5, none⟩ (.slice A5 n5 k5))) := fun w4 A5 n5 k5 h4 hb5 hg5 => by
      have q5 : w4.cell? ⟨q, 5, none⟩ = some (.slice A0 n0 c0') := (h4.cell (p := ⟨q, 5, none⟩) hQl).trans d5
      have q4 : w4.cell? ⟨q, 4, none⟩ = some (.int .i64 s) := (h4.cell (p := ⟨q, 4, none⟩) hQl).trans d4
      have qf : w4.frozen? ⟨q, 5, none⟩ = false := (h4.frozen (p := ⟨q, 5, none⟩) hQl).trans (by rw [← hw1, World.frozen?_setCell]; exact hf 5)
      obtain ⟨A', n', c', hp, hb', hG⟩ := H.mem
      have hp4 : w4.rowIs q 46 6 (fun i => if i = 1 then .int .i64 (h.off + n) else rfV h s (.slice A' n' c') i) := by
        have := hp.set 1 (.int .i64 (h.off + n))
        rw [hw1] at this
        exact this.of_block (h4.block q hQl)
      have hz : (w4.setCell ⟨q, 5, none⟩ (.slice A5 n5 k5)).heap.size = w4.heap.size := by simp
      have hzz := h4.size
      have ho4 : Only (· = q) w (w4.setCell ⟨q, 5, none⟩ (.slice A5 n5 k5)) := (ho1.trans (Only.mono' (p := fun _ => False) (Only.of_below (by rw [hz1]; exact h4)) (fun _ _ e => e.elim))).set (q := ⟨q, 5, none⟩) rfl _
      refine ⟨q5, qf, q4, fun k => k = q ∨ ∃ o, 0 < n5 ∧ A5 = some ⟨k, o, none⟩, ⟨fun k hk => ?_, Or.inl rfl, ⟨A5, n5, k5, (hp4.set 5 _).congr (fun i hi => ?_), ?_, fun g o h0 e => ⟨Or.inr ⟨o, h0, e⟩, ?_⟩⟩, H.s1, H.s2, ?_, ?_, H.i1, H.i2, H.fk⟩, ho4.mono (fun k e => e ▸ H.me), fun k hk => ?_⟩
      · rw [hz]
        rcases hk with rfl | ⟨o, h0, e⟩
        · exact ⟨(H.own _ H.me).1, by omega⟩
        · have := hg5 k o h0 e
          have := (H.own _ H.me).1
          exact ⟨by omega, by omega⟩
      · unfold rfV
        rcases (by omega : i = 0 ∨ i = 1 ∨ i = 2 ∨ i = 3 ∨ i = 4 ∨ i = 5) with rfl | rfl | rfl | rfl | rfl | rfl <;> rfl
      · exact hb5.only (p := (· = q)) ((Only.refl (· = q) w4).set (q := ⟨q, 5, none⟩) rfl _) (fun g o h0 e hq => by have := (hg5 g o h0 e).1; omega)
      · have := (hg5 g o h0 e).1
        omega
      · rw [List.length_append, hnl]
        show _ ≤ h.off + n
        omega
      · show h.off + n ≤ _
        omega
      · rcases hk with rfl | ⟨o, h0, e⟩
        · exact Or.inl H.me
        · exact Or.inr (hg5 k o h0 e).1
    have HNL := Lib.hid hnl
    have HN := Lib.hid hN
    have HN0 := Lib.hid hn0
    have HZ := Lib.hid hz1
    have HS1 := Lib.hid H.s1
    have HWX := Lib.hid hwx
    have HW1 := Lib.hid hw1
    have hN2 : N ≤ 17777216 := by omega
    obtain ⟨off, hof⟩ : ∃ o, h.off = o := ⟨_, rfl⟩
    rw [hof] at hw c1 hlt hltb hwa HW1
    clear c0 c2 c3 c4 c5 H hb hnl hxo ho2 hof hB hf hn0 hyp hip hz1 ho1 hbx hE hB1 hb1 hwx hw1 hbG
    go_enter Try.func29, Try.ntmps29
    go_wp2_with (first | rw [HW1.out] | rw [HWX.out] | (at_builtin; refine wpList_append_sl rfl _ _ 33 rfl w1.heap.size 5 ip _ 1 Try.underlying33 HIQ.out HIP.out.1 HIP.out.2.1 HIP.out.2.2 rfl (.slice (some ⟨w1.heap.size, 0, none⟩) 0 0) 0 [] rfl HEMP.out A0 n0 c0' ((lastN s X).map byV) rfl HBX.out (by_one _) (by omega) (by omega) hxz ?_))
    intro v' w3 hown hgr _ _
    obtain ⟨A3, k3, rfl⟩ := own_form1 hown
    try rw [Nat.zero_add, List.nil_append] at hown
    have hb3 : Below w1.heap.size w1 w3 := HBB.out.trans ((Below.refl _ _).grown hgr hxz (fun k e => by cases e; exact Nat.le_refl _))
    have HO3 := Lib.hid hown
    have HB3 := Lib.hid (Hb1.out.below hb3)
    have hz3 := hb3.size
    have HBB3 := Lib.hid hb3
    clear hown hgr hb3 e5
    go_wp2_with (at_builtin; refine wpList_append_sl rfl _ _ 33 rfl w1.heap.size 5 ip _ 1 Try.underlying33 HIQ.out HIP.out.1 HIP.out.2.1 HIP.out.2.2 rfl (.slice A3 n0 k3) n0 ((lastN s X).map byV) rfl HO3.out A n c (b.map byV) rfl HB3.out (by_one _) (by omega) (by omega) hz3 ?_)
    intro v' w4 hown hgr _ _
    obtain ⟨A4, k4, rfl⟩ := own_form1 hown
    have hb4 : Below w1.heap.size w1 w4 := HBB3.out.trans ((Below.refl _ _).grown hgr hz3 (fun k e => (HO3.out.lt k e).1))
    try rw [HN.out] at hown
    have HO4 := Lib.hid hown
    have HBB4 := Lib.hid hb4
    have hbA : ByAt w4 A4 N k4 (lastN s X ++ b) := by
      have := SlAt.own hown
      rwa [← List.map_append] at this
    have HBA := Lib.hid hbA
    have HG4 : Hid (∀ g o, A4 = some ⟨g, o, none⟩ → w.heap.size ≤ g ∧ g < w4.heap.size) := fun g o e => by
      have := HO4.out.lt g (by rw [e]; rfl)
      rw [HZ.out] at this
      exact this
    have hNk := hbA.le
    have hkm := hbA.max
    have HBZ : Hid (Below w.heap.size w1 w4) := by unfold Hid; rw [← HZ.out]; exact hb4
    have hq4 : w4.cell? ⟨q, 4, none⟩ = some (.int .i64 s) := (HBZ.out.cell (p := ⟨q, 4, none⟩) hQl).trans d4
    have HNN := Lib.hid HN.out
    clear hown hgr hb4 hbA
    by_cases hgt : s < N
    · obtain ⟨d, hd⟩ : ∃ d, N - s = d := ⟨_, rfl⟩
      have hdk : N - d = s := by omega
      obtain ⟨k5, hk5⟩ : ∃ k, k4 - d = k := ⟨_, rfl⟩
      obtain ⟨A5, hA5⟩ : ∃ A5, (if k4 = d then A4 else A4.map (fun x => x.add d)) = A5 := ⟨_, rfl⟩
      have hw5 : IntKind.i64.wrap ((N : Int) - (s : Int)) = (d : Int) := by rw [IntWalk.i64_in _ (by omega)]; omega
      have hd0 : (0 : Int) ≤ (d : Int) := by omega
      have hdN : (d : Int) ≤ (N : Int) := by omega
      have hdK : (d : Int) ≤ (k4 : Int) := by omega
      have hgtI : (s : Int) < (N : Int) := by omega
      have hb5 : ByAt w4 A5 s k5 (lastN s (X ++ b)) := by
        have := HBA.out.rest (i := d) (by omega)
        rw [hA5, hdk, hk5] at this
        rw [← lastN_feed, show (lastN s X ++ b).length - s = d by rw [HBA.out.len]; exact hd]
        exact this
      obtain ⟨k5', f5', _, he⟩ := HEND.out w4 A5 s k5 HBZ.out hb5 (fun g o h0 e => by
        rw [← hA5] at e
        split at e
        · exact HG4.out g o e
        · cases hA : A4 with
          | none => rw [hA] at e; cases e
          | some ad =>
            rw [hA, Option.map_some] at e
            injection e with e
            obtain ⟨b', o', e', _⟩ := HBA.out.cell (j := 0) (by omega)
            rw [hA] at e'
            injection e' with e'
            rw [e', Go.WideShapes.add_plain] at e
            injection e with e1 e2
            subst e1
            exact HG4.out b' o' (by rw [hA, e']))
      have HE := Lib.hid he
      clear hb5 he hd
      go_wp2
      go_ret
      exact ⟨rfl, HE.out⟩
    · have hgtb : decide ((s : Int) < (N : Int)) = false := by simp; omega
      have hb5 : ByAt w4 A4 N k4 (lastN s (X ++ b)) := by
        rw [← lastN_keep (by rw [HBA.out.len]; omega)]
        exact HBA.out
      obtain ⟨k5', f5', _, he⟩ := HEND.out w4 A4 N k4 HBZ.out hb5 (fun g o _ e => HG4.out g o e)
      have HE := Lib.hid he
      clear hb5 he
      go_wp2
      go_ret
      exact ⟨rfl, HE.out⟩

end

end Go.Proofs.Ytbecjaamheibmaa
