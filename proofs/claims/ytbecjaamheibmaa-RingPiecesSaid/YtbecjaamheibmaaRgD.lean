/-
  Package ring's last bytes: the walk of put. Conditions: the ring lies in memory as typed; what is put in lies elsewhere.
-/
import Derived.Test.YtbecjaamheibmaaRgC
import Derived.Deep.RegionLaw
namespace Go.Proofs.Ytbecjaamheibmaa
open Go.RowKit

theorem LsOn.al {w : World} {base p s al al' r : Nat} {F : Nat → Prop} {h : Hst} {X : Tx} (H : LsOn w base F p s h al r X) : LsOn (w.setCell ⟨p, 6, none⟩ (.int .i64 (al' : Int))) base F p s h al' r X := by
  obtain ⟨hF, hFp, hXr, g, m, S, hp, hg, hroom, hsl⟩ := H
  refine ⟨fun k hk => by rw [show (w.setCell ⟨p, 6, none⟩ (.int .i64 (al' : Int))).heap.size = w.heap.size by simp]; exact hF k hk, hFp, hXr, g, m, S, (hp.set 6 _).congr (fun i hi => ?_), fun hm => ⟨(hg hm).1, (hg hm).2.1, (hg hm).2.2.setOther (a := ⟨p, 6, none⟩) (hg hm).2.1 _⟩, hroom, hsl⟩
  unfold rgV
  rcases (by omega : i = 0 ∨ i = 1 ∨ i = 2 ∨ i = 3 ∨ i = 4 ∨ i = 5 ∨ i = 6 ∨ i = 7) with rfl | rfl | rfl | rfl | rfl | rfl | rfl | rfl <;> rfl

/-- What put leaves. -/
def PutIn (w : World) (base : Nat) (F : Nat → Prop) (p s : Nat) (h : Hst) (X b : Tx) (w' : World) : Prop := ∃ F', LsOn w' base F' p s h (X ++ b).length (X ++ b).length (X ++ b) ∧ Chg F F' w w'

set_option maxRecDepth 100000 in
set_option maxHeartbeats 8000000 in
theorem put_any {base p s n c : Nat} {F : Nat → Prop} {h : Hst} {X b : Tx} {A : Option Addr} (w : World) (H : LsOn w base F p s h X.length X.length X) (hs : 0 < s) (hs2 : s ≤ 16777216) (hb : ByAt w A n c b) (hbF : ∀ g o, 0 < n → A = some ⟨g, o, none⟩ → ¬ F g) (ha : X.length + n ≤ 2251799813685248) :
    Calls Try.prog 40 #[.pointer (some ⟨p, 5, none⟩), .slice A n c] w fun e w' => e = .returned (.tuple #[]) ∧ PutIn w base F p s h X b w' := by
  have hnl := hb.len
  have hnc := hb.le
  have hcm := hb.max
  obtain ⟨al, hal⟩ : ∃ al, X.length + n = al := ⟨_, rfl⟩
  have hplt := (H.1 p H.2.1).2
  obtain ⟨c6, f6⟩ : w.cell? ⟨p, 6, none⟩ = some (.int .i64 X.length) ∧ w.frozen? ⟨p, 6, none⟩ = false := by
    obtain ⟨_, _, _, g, m, S, hp, _⟩ := H
    exact ⟨hp.cell (i := 6) (by omega), hp.frozen 6⟩
  have hw1 : IntKind.i64.wrap ((X.length : Int) + (n : Int)) = (al : Int) := by rw [IntWalk.i64_in _ (by omega)]; omega
  obtain ⟨w1, hw⟩ : ∃ w1, w.setCell ⟨p, 6, none⟩ (.int .i64 (al : Int)) = w1 := ⟨_, rfl⟩
  have hH1 : LsOn w1 base F p s h al X.length X := by rw [← hw]; exact H.al
  have hc1 : Chg F F w w1 := by rw [← hw]; exact ⟨(Only.refl F w).set (q := ⟨p, 6, none⟩) H.2.1 _, fun _ q => Or.inl q⟩
  have hb1 : ByAt w1 A n c b := hb.only hc1.1 hbF
  have HW1 := Lib.hid hw
  have HB1 := Lib.hid hb1
  have HC1 := Lib.hid hc1
  have HG := Lib.hid (grow_any w1 hH1 hs hs2 (show X.length ≤ al by omega))
  have hc5 : w1.cell? ⟨p, 5, none⟩ = some (.int .i64 s) := by
    obtain ⟨_, _, _, g, m, S, hp, _⟩ := hH1
    exact hp.cell (i := 5) (by omega)
  obtain ⟨d, hd⟩ : ∃ d, n - s = d := ⟨_, rfl⟩
  have hw2 : IntKind.i64.wrap ((n : Int) - (s : Int)) = (n : Int) - (s : Int) := IntWalk.i64_in _ (by omega)
  have hmx : Builtin.max_ #[3, 3] 3 #[.int .i64 0, .int .i64 ((n : Int) - (s : Int))] = pure (.int .i64 (d : Int)) := by
    have e : (if (0 : Int) < (n : Int) - (s : Int) then (n : Int) - (s : Int) else 0) = (d : Int) := by split <;> omega
    rw [← e]
    simp [Builtin.max_, Builtin.max2]
  obtain ⟨k, hk⟩ : ∃ k, n - d = k := ⟨_, rfl⟩
  obtain ⟨c1, hc1'⟩ : ∃ c1, c - d = c1 := ⟨_, rfl⟩
  obtain ⟨A1, hA1⟩ : ∃ A1, (if c = d then A else A.map (fun x => x.add d)) = A1 := ⟨_, rfl⟩
  have HB0 := Lib.hid hb
  have HA1 := Lib.hid hA1
  have HC1C := Lib.hid hc1'
  have HAL := Lib.hid hal
  have HD := Lib.hid hd
  have HK := Lib.hid hk
  have HNL := Lib.hid hnl
  have hal2 : al ≤ 2251799813685248 := by omega
  have hdn : (d : Int) ≤ (n : Int) := by omega
  have hdc : (d : Int) ≤ (c : Int) := by omega
  have hd0 : (0 : Int) ≤ (d : Int) := by omega
  obtain ⟨xl, hxl⟩ : ∃ xl, X.length = xl := ⟨_, rfl⟩
  rw [hxl] at c6 hw1
  clear hal hd hnl hw hb1 hc1 hH1 hb ha hxl
  go_enter Try.func40, Try.ntmps40
  go_wp2_with (rw [HW1.out])
  refine HG.out.mono ?_
  rintro e w2 ⟨rfl, F2, hl2, hc2⟩
  have HL2 := Lib.hid hl2
  have HC2 := Lib.hid (HC1.out.trans hc2)
  obtain ⟨hF2, hFp2, _, g, m, S, hp2, hg2, hroom2, hsl2⟩ := hl2
  have d5 : w2.cell? ⟨p, 5, none⟩ = some (.int .i64 s) := hp2.cell (i := 5) (by omega)
  have d6 : w2.cell? ⟨p, 6, none⟩ = some (.int .i64 al) := hp2.cell (i := 6) (by omega)
  have d7 : w2.cell? ⟨p, 7, none⟩ = some (slV g m m) := hp2.cell (i := 7) (by omega)
  obtain ⟨A7, cc, hA7, hA71, hA72⟩ := slV_form g m m
  rw [hA7] at d7
  have hmc : m = cc := by
    by_cases h0 : 0 < m
    · exact (hA71 h0).2.symm
    · have := (hA72 (by omega)).2; omega
  subst hmc
  obtain ⟨q, hq⟩ : ∃ q, (al - k) % s = q := ⟨_, rfl⟩
  obtain ⟨mq, hmq⟩ : ∃ mq, m - q = mq := ⟨_, rfl⟩
  obtain ⟨D, hD⟩ : ∃ D, (if m = q then A7 else A7.map (fun x => x.add q)) = D := ⟨_, rfl⟩
  obtain ⟨n1, hn1⟩ : ∃ n1, min k mq = n1 := ⟨_, rfl⟩
  obtain ⟨k2, hk2⟩ : ∃ k2, k - n1 = k2 := ⟨_, rfl⟩
  obtain ⟨c2, hc2'⟩ : ∃ c2, c1 - n1 = c2 := ⟨_, rfl⟩
  obtain ⟨A2, hA2⟩ : ∃ A2, (if c1 = n1 then A1 else A1.map (fun x => x.add n1)) = A2 := ⟨_, rfl⟩
  have hna : n ≤ al := by have := HAL.out; omega
  have hkn : k = min n s := by have := HK.out; have := HD.out; omega
  have hqs : q < s := by rw [← hq]; exact Nat.mod_lt _ hs
  have hqa : q ≤ al - k := by rw [← hq]; exact Nat.mod_le _ _
  have hqm : q ≤ m := by rcases hroom2.2 with e | e <;> omega
  have hms := hroom2.1
  have hk2m : k2 ≤ m := by rcases hroom2.2 with e | e <;> omega
  have hn1k : n1 ≤ k := by omega
  have hn1c : n1 ≤ c1 := by have := HC1C.out; have := HK.out; omega
  have HP : Hid (∀ nq, Calls Try.prog 41 #[.pointer (some ⟨p, 5, none⟩), .int .i64 k] (w2.drewN nq) fun e w' => e = .returned (.int .i64 q) ∧ ∃ n, w' = (w2.drewN nq).drewN n) := fun nq =>
    place_any p s al k q (w2.drewN nq) d5 d6 hs hs2 (by have := HK.out; have := HAL.out; omega) hal2 hq.symm
  have hc20 : Only F w w2 := HC2.out.1
  have hAF : ∀ g o, 0 < n → A = some ⟨g, o, none⟩ → g < w.heap.size ∧ ¬ F2 g := fun g o h0 e => by
    obtain ⟨g', o', e', hlt, _⟩ := HB0.out.cell (j := 0) h0
    rw [e] at e'
    injection e' with e'
    injection e' with e1 e2
    subst e1
    refine ⟨hlt, fun hf => ?_⟩
    rcases HC2.out.2 g hf with q | q
    · exact hbF g o h0 e q
    · omega
  have HB2 : Hid (ByAt w2 A1 k c1 (b.drop d)) := by
    have := (HB0.out.only hc20 hbF).rest (i := d) (by omega)
    rwa [HA1.out, HK.out, HC1C.out] at this
  have HB3 : Hid (∀ X, Only (fun i => i = g ∧ 0 < m) w2 X → ByAt X A2 k2 c2 ((b.drop d).drop n1)) := fun X hX => by
    have h2 := HB0.out.only hc20 hbF
    have := ((h2.only hX (fun b0 o0 h0 e => fun q => (hAF b0 o0 h0 e).2 (q.1 ▸ (hg2 q.2).1))).rest (i := d) (by omega)).rest (i := n1) (by omega)
    rwa [HA1.out, HK.out, HC1C.out, hA2, hk2, hc2'] at this
  have HCP : Hid (∀ nq, CpAt (w2.drewN nq) D A1 g q n1 (fun j => (b.drop d).getD j 0)) := fun nq h0 => by
    obtain ⟨e1, e2⟩ := hA71 (by omega)
    refine ⟨?_, HB2.out.src (by omega) h0⟩
    rw [← hD, if_neg (by omega), e1, Option.map_some, Go.WideShapes.add_plain, Nat.zero_add]
  have hG2 : Hid (∀ nq, 0 < m → (w2.drewN nq).rowIs g 5 m (byF S)) := fun _ h0 => (hg2 h0).2.2
  have hfit : q + n1 ≤ m := by omega
  have hq0 : (0 : Int) ≤ (q : Int) := by omega
  have hqmI : (q : Int) ≤ (m : Int) := by omega
  have hn10 : (0 : Int) ≤ (n1 : Int) := by omega
  have hn1kI : (n1 : Int) ≤ (k : Int) := by omega
  have hn1cI : (n1 : Int) ≤ (c1 : Int) := by omega
  have HN1 : Hid (n1 = Nat.min k mq) := hn1.symm
  have HQ := Lib.hid hq
  have HKN := Lib.hid hkn
  have HA71 := Lib.hid hA71
  have HA7 := Lib.hid hA7
  have HG20 := Lib.hid hg2
  have HF2 := Lib.hid hF2
  have HP2 := Lib.hid hp2
  have HSL2 := Lib.hid hsl2
  have HRO2 := Lib.hid hroom2
  have HAF := Lib.hid hAF
  clear hc2 hq hn1 hkn hA71 hA72 hg2 hF2 hp2 hsl2 hroom2 hAF hc20 hA7
  go_wp2_with fail
  go_region_law (first
    | (go_simp; go_at_call 41; refine Calls.mono (HP.out _) ?_; rintro e w3 ⟨rfl, n3, rfl⟩)
    | (with_reducible refine step_copy_by (o := ⟨some 36, _, _, _, _, _⟩) rfl (.tmp 34) (.tmp 35) 33 33 rfl 5 Try.underlying33 info_by1 D A1 mq mq k c1 rfl rfl g m q n1 5 S (fun j => (b.drop d).getD j 0) (hG2.out _) HN1.out (HCP.out _) hfit ?_; intro w3 hrow ho; have HROW := Lib.hid hrow; have HO := Lib.hid ho; clear hrow ho))
  all_goals
    have ho2 : Only (fun i => i = g ∧ 0 < m) w2 w3 := Only.trans (Only.drewN _ w2 _) HO.out
    have hp3 : w3.rowIs p 67 8 (rgV p h s al (slV g m m)) := ho2.row HP2.out (fun q => (HG20.out q.2).2.1 q.1.symm)
    have e7 : w3.cell? ⟨p, 7, none⟩ = some (.slice A7 m m) := (hp3.cell (i := 7) (by omega)).trans (by show some (slV g m m) = _; rw [HA7.out])
    have HO2 := Lib.hid ho2
    have HP3 := Lib.hid hp3
    clear HO ho2 hp3
    have HCP4 : Hid (CpAt w3.drew A7 A2 g 0 k2 (fun j => (b.drop d).getD (n1 + j) 0)) := fun h0 => by
      obtain ⟨e1, e2⟩ := HA71.out (by omega)
      obtain ⟨ad, r1, r2⟩ := (HB3.out w3 HO2.out).src (Nat.le_refl _) h0
      exact ⟨e1, ad, r1, fun j hj => by
        have := r2 j hj
        rw [getD_drop] at this
        exact this⟩
    have HG4 : Hid (0 < m → w3.drew.rowIs g 5 m (byF (ovl S q n1 fun j => (b.drop d).getD j 0))) := fun h0 => HROW.out h0
    have HN4 : Hid (k2 = Nat.min k2 m) := (Nat.min_eq_left hk2m).symm
    have hfit4 : 0 + k2 ≤ m := by omega
    go_wp2_with fail
    go_region_law (with_reducible refine step_copy_by (o := ⟨some 44, _, _, _, _, _⟩) rfl (.tmp 40) (.tmp 43) 33 33 rfl 5 Try.underlying33 info_by1 A7 A2 m m k2 c2 rfl rfl g m 0 k2 5 (ovl S q n1 fun j => (b.drop d).getD j 0) (fun j => (b.drop d).getD (n1 + j) 0) HG4.out HN4.out HCP4.out hfit4 ?_; intro w4 hrow ho; have HROW4 := Lib.hid hrow; have HO4 := Lib.hid ho; clear hrow ho)
    all_goals
      have HE : Hid (PutIn w base F p s h X b w4) := by
        have ho4 : Only (fun i => i = g ∧ 0 < m) w2 w4 := HO2.out.trans (Only.trans (Only.drewN _ w3 1) HO4.out)
        have hlen : (X ++ b).length = al := by rw [List.length_append, HNL.out]; exact HAL.out
        have hsl := HSL2.out.put (b := b) (k := k) (q := q) (n1 := n1) (m := m) hs (by rw [RoomN] at HRO2; exact ⟨HRO2.out.1, by rw [hlen]; exact HRO2.out.2⟩) (by rw [HNL.out]; exact HKN.out) (by rw [hlen]; exact HQ.out.symm) (by rw [hmq]; show n1 = min mq k; have e : n1 = min k mq := HN1.out; omega)
        rw [show b.length - k = d by have := HNL.out; have := HKN.out; have := HD.out; omega, hk2] at hsl
        refine ⟨F2, ⟨fun i hi => ⟨(HF2.out i hi).1, Nat.lt_of_lt_of_le (HF2.out i hi).2 ho4.size⟩, hFp2, Nat.le_refl _, g, m, _, ?_, fun h0 => ⟨(HG20.out h0).1, (HG20.out h0).2.1, HROW4.out h0⟩, by rw [hlen]; exact HRO2.out, hsl⟩, HC2.out.trans ⟨ho4.mono (fun i e => e.1 ▸ (HG20.out e.2).1), fun i hi => Or.inl hi⟩⟩
        rw [hlen]
        exact ho4.row HP2.out (fun e => (HG20.out e.2).2.1 e.1.symm)
      go_wp2
      go_end0
      exact ⟨rfl, HE.out⟩

end Go.Proofs.Ytbecjaamheibmaa
