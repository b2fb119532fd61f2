/-
  power; how a script's table grows; the walk of TableGrows at any seed and any script.
-/
import Derived.Test.YtekbaajhdilbdaaTcV
namespace Go.Proofs.Ytekbaajhdilbdaa
open Go.RowKit

set_option maxRecDepth 100000 in
set_option maxHeartbeats 4000000 in
theorem power_any (i n : Nat) (hi : 2 ≤ i) (hi2 : i ≤ 20) (hn : n = 2 ^ i) (w : World) :
    Calls Try.prog 29 #[.int .i64 n] w fun e w' => e = .returned (.bool true) ∧ w' = w := by
  have hn2 : n ≤ 1048576 := by rw [hn]; exact Nat.pow_le_pow_right (n := 2) (by decide) hi2
  have HN := Lib.hid hn
  clear hn
  go_enter Try.func29, Try.ntmps29
  go_wp2_with fail
  go_loopw [3] (fun kv wr => ∃ j : Nat, kv = .int .i64 ((2 ^ j : Nat) : Int) ∧ 2 ≤ j ∧ j ≤ i ∧ wr = w) (fun kv _ => n - (intOf kv).toNat)
  case atStart => exact ⟨2, rfl, by omega, by omega, rfl⟩
  case round =>
    obtain ⟨j, rfl, hj, hji, rfl⟩ := hrel
    obtain ⟨K, hK⟩ : ∃ K, 2 ^ j = K := ⟨_, rfl⟩
    have HK := Lib.hid hK
    have hKn : K ≤ n := by rw [← hK, HN.out]; exact Nat.pow_le_pow_right (n := 2) (by decide) hji
    have hK4 : 4 ≤ K := by rw [← hK]; exact Nat.pow_le_pow_right (n := 2) (by decide) hj
    rw [hK]
    clear hK
    have hle : (K : Int) ≤ 1048576 := by omega
    by_cases hji2 : j = i
    · obtain rfl : K = n := by rw [← HK.out, HN.out, hji2]
      have d0 : ((K : Int) == (K : Int)) = true := by simp
      go_wp2
      go_ret
      exact ⟨rfl, rfl⟩
    · have hlt : K < n := by rw [← HK.out, HN.out]; exact Nat.pow_lt_pow_right (by decide) (by omega)
      have d0 : ((n : Int) == (K : Int)) = false := beq_eq_false_iff_ne.2 (by omega)
      have d1 : IntKind.i64.wrap ((K : Int) * 2) = (K : Int) * 2 := IntWalk.i64_in _ (by omega)
      clear hji2
      go_wp2
      go_roundw
      case rel => exact ⟨j + 1, by rw [Nat.pow_succ, HK.out]; simp, by omega, (by have := HN.out; have := HK.out; exact Nat.lt_of_le_of_ne hji (fun e => by subst e; omega)), trivial⟩
      case measure => simp only [intOf]; omega

theorem grows_act {seed : Nat} {t : Tb Int} (g : Grows t) (kind : Int) (k : List UInt8) (v : Int) : Grows (actT seed t kind k v) := by
  unfold actT
  split
  · exact grows_put _ (grows_step _ g) k v
  · split
    · exact grows_step _ g
    · split
      · exact grows_del _ (grows_step _ g) k
      · split
        · exact grows_step _ g
        · exact g

theorem tab_grows (seed : Nat) (L : List Op4) : Grows (tabT seed L) := by
  have key : ∀ (L : List Op4) (t : Tb Int), Grows t → Grows (L.foldl (fun t o => actT seed t o.kind (cutK o.key).data.toList o.v) t) := by
    intro L
    induction L with
    | nil => intro t h; exact h
    | cons x L ih => intro t h; exact ih _ (grows_act h _ _ _)
  exact key L _ grows_new

set_option maxRecDepth 100000 in
set_option maxHeartbeats 16000000 in
theorem tableGrows_any (x : Int) (hlo : 0 ≤ x) (hhi : x ≤ 18446744073709551615) {A : Option Addr} {len cap g o : Nat} {L : List Op4} (W : World) (hL : ScrAt W A len cap g o L) :
    Calls Try.prog 7 #[.int .u64 x, .slice A len cap] W fun e W' => e = .returned (.bool true) ∧ Below W.heap.size W W' := by
  obtain ⟨seed, rfl⟩ : ∃ n : Nat, x = (n : Int) := ⟨x.toNat, by omega⟩
  have hseed : seed < 18446744073709551616 := by omega
  have HLL := Lib.hid hL
  have hle := hL.le
  have hmax := hL.max
  have HNEW := Lib.hid (newI_any seed W)
  clear hL hlo hhi
  go_enter Try.func7, Try.ntmps7
  go_wp2_with fail
  refine HNEW.out.mono ?_
  rintro e w1 ⟨Q, o1, gA, sA, gB, sB, rfl, hp, hb⟩
  have HB1 := Lib.hid hb
  have HP1 := Lib.hid hp
  clear hp hb
  go_wp2_with fail
  go_loopw [6, 7, 8, 9] (fun iv _ _ _ wr => ∃ (i : Nat) (o3 : Own) (gA3 : Nat) (sA3 : Nat → Value) (gB3 : Nat) (sB3 : Nat → Value), iv = .int .i64 i ∧ i ≤ len ∧ i ≤ 200 ∧ PT KI wr W.heap.size o3 Q 67 seed (tabT seed (L.take i)) gA3 sA3 gB3 sB3 ∧ Below W.heap.size W wr) (fun iv _ _ _ _ => len - (intOf iv).toNat)
  case atStart => exact ⟨0, o1, gA, sA, gB, sB, rfl, by omega, by omega, by rw [List.take_zero]; exact HP1.out, HB1.out⟩
  case round =>
    obtain ⟨i, o3, gA3, sA3, gB3, sB3, rfl, hi, hi2, hp3, hbr⟩ := hrel
    have HP3 := Lib.hid hp3
    have HBR := Lib.hid hbr
    obtain ⟨t, ht⟩ : ∃ t, tabT seed (L.take i) = t := ⟨_, rfl⟩
    have HT := Lib.hid ht
    rw [ht] at HP3
    have HGD : Hid (Good (hashT seed) i t ∧ KeysT (fun k => k.length ≤ 1000) t) := by
      unfold Hid
      have q := tab_good seed (L.take i)
      rw [ht] at q
      exact ⟨q.1.mono (by rw [List.length_take]; omega), q.2⟩
    clear hp3 hbr ht
    by_cases hlt : i < len
    · by_cases h200 : i < 200
      · obtain ⟨op, hop⟩ : ∃ op, L[i]? = some op := ⟨_, List.getElem?_eq_getElem (by rw [HLL.out.len]; exact hlt)⟩
        obtain ⟨rfl, hg⟩ := HLL.out.at_ (by omega)
        obtain ⟨k0, k1, k2, k3⟩ := HLL.out.cells i op hop
        have HFIT := Lib.hid (HLL.out.fits op (List.mem_of_getElem? hop))
        have HTK : Hid (tabT seed (L.take (i + 1)) = actT seed t op.kind (cutK op.key).data.toList op.v) := by
          unfold Hid
          rw [List.take_add_one, hop, Option.toList_some, tabT_snoc, HT.out]
        obtain ⟨okd, okey, ov, odr⟩ := op
        dsimp only at k0 k1 k2 k3 HFIT HTK
        have HCL : Hid (∀ X, Below wr.heap.size wr X → X.cell? ⟨g, o + i * 4, none⟩ = some (.int .i64 okd) ∧ X.cell? ⟨g, o + i * 4 + 1, none⟩ = some (.string okey) ∧ X.cell? ⟨g, o + i * 4 + 2, none⟩ = some (.int .i64 ov) ∧ X.cell? ⟨g, o + i * 4 + 3, none⟩ = some (.int .u64 odr)) := fun X hX =>
          have hb := HBR.out.trans (hX.mono HBR.out.size)
          ⟨(hb.cell (p := ⟨g, o + i * 4, none⟩) hg).trans k0, (hb.cell (p := ⟨g, o + i * 4 + 1, none⟩) hg).trans k1, (hb.cell (p := ⟨g, o + i * 4 + 2, none⟩) hg).trans k2, (hb.cell (p := ⟨g, o + i * 4 + 3, none⟩) hg).trans k3⟩
        obtain ⟨e0, e1, e2, e3⟩ := HCL.out wr (Below.refl _ _)
        have hcc : cap ≤ 9223372036854775807 := hmax
        have hcl : len ≤ cap := hle
        clear k0 k1 k2 k3 hop
        have h200i : (i : Int) < 200 := by omega
        have h200b : decide ((i : Int) < 200) = true := by simpa using h200i
        go_wp2_with fail
        have HRN := Lib.hid (fun X => rnew_any seed X)
        have HACT := Lib.hid (fun (X : World) (Q2 : Nat) (o2 : Own) (gA2 : Nat) (sA2 : Nat → Value) (gB2 : Nat) (sB2 : Nat → Value) (hX : Below wr.heap.size wr X) (hr : RT X wr.heap.size o2 Q2 seed newT gA2 sA2 gB2 sB2) => act_fresh hseed HP3.out hX hr HGD.out.1 (by omega) HGD.out.2 okd ov okey HFIT.out.1 odr HFIT.out.2)
        apply by_two (F := fun _ v X => (∃ b : Bool, v = .bool b) ∧ ∃ o1' gA' sA' gB' sB', PT KI X W.heap.size o1' Q 67 seed (actT seed t okd (cutK okey).data.toList ov) gA' sA' gB' sB' ∧ Turns o3 o1' wr X)
        case h1 =>
          intro HFIN
          go_region_law (first
            | (have qq := HQ2; go_simp; go_at_call 16; refine (HACT.out _ _ _ _ _ _ _ (by first | exact HX2.out | exact HX2.out.drew) (by first | exact HQ2.out | exact HQ2.out.below' (Below.refl _ _).drew)).mono ?_; rintro en w5 ⟨bb, rfl, o5, gA5, sA5, gB5, sB5, hT5, hu5⟩; have HT5 := Lib.hid hT5; have HU5 := Lib.hid hu5; clear hT5 hu5)
            | (go_simp; go_at_call 15; refine (HRN.out _).mono ?_; rintro en w4 ⟨Q2, o2, gA2, sA2, gB2, sB2, rfl, hr2, hb2⟩; have HX2 : Hid (Below wr.heap.size wr w4) := (by first | exact hb2 | exact (Below.refl wr.heap.size wr).drew.trans hb2); have HQ2 : Hid (RT w4 wr.heap.size o2 Q2 seed newT gA2 sA2 gB2 sB2) := (by first | exact hr2); obtain ⟨y0, y1, y2, y3⟩ := HCL.out w4 HX2.out; clear hr2 hb2))
          all_goals
            have HROUND := (⟨⟨_, rfl⟩, _, _, _, _, _, HT5.out, HU5.out⟩ : (∃ b : Bool, Value.bool bb = .bool b) ∧ ∃ o1' gA' sA' gB' sB', PT KI w5 W.heap.size o1' Q 67 seed (actT seed t okd (cutK okey).data.toList ov) gA' sA' gB' sB' ∧ Turns o3 o1' wr w5)
            obtain ⟨v9, hv9⟩ : ∃ v9, Value.bool bb = v9 := ⟨_, rfl⟩
            rw [hv9] at HROUND ⊢
            obtain ⟨v8, hv8⟩ : ∃ v8, Value.pointer (some ⟨Q2, 0, none⟩) = v8 := ⟨_, rfl⟩
            rw [hv8]
            exact HFIN.out v8 v9 w5 HROUND
        case h2 =>
          intro v8 v9 wf hround
          obtain ⟨⟨bb, rfl⟩, o5, gA5, sA5, gB5, sB5, hp5, hu5⟩ := hround
          have HP5 := Lib.hid hp5
          have HW5 := Lib.hid (HBR.out.trans (hu5.below HBR.out.size (fun q hq => (TbOn.dom HP3.out q hq).1)))
          have hg5 : Good (hashT seed) (i + 1) (actT seed t okd (cutK okey).data.toList ov) := good_act HGD.out.1 _ _ _
          have hgr : Grows (actT seed t okd (cutK okey).data.toList ov) := by rw [← HTK.out]; exact tab_grows seed _
          obtain ⟨t2, ht2⟩ : ∃ t2, actT seed t okd (cutK okey).data.toList ov = t2 := ⟨_, rfl⟩
          rw [ht2] at HP5 HTK hg5 hgr
          clear hp5 hu5 ht2 e0 e1 e2 e3
          have hSZ := sizesI_any wf HP5.out hg5.kept.pos
          have hLEN := fun X (hX : Below wf.heap.size wf X) => lenI_any X (HP5.out.below' hX)
          obtain ⟨na, hna⟩ : ∃ n, t2.A.length = n := ⟨_, rfl⟩
          obtain ⟨nb, hnb⟩ : ∃ n, t2.B.length = n := ⟨_, rfl⟩
          obtain ⟨nm, hnm⟩ : ∃ n, t2.moved = n := ⟨_, rfl⟩
          obtain ⟨nn, hnn⟩ : ∃ n, t2.n = n := ⟨_, rfl⟩
          obtain ⟨ia, hia, hpa⟩ := hgr.pw
          have htwo := hgr.two
          have hfull := hgr.full
          have hmv := hg5.kept.mv
          have hst := hg5.kept.still
          have hga := hg5.a
          have hgb := hg5.b
          have hgn := hg5.n
          rw [hna, hnb, hnm] at hSZ
          rw [hnn] at hLEN hgn
          rw [hna] at hpa htwo hfull hmv hga
          rw [hnb] at htwo hfull hmv hst hgb
          rw [hnm] at hmv hst
          rw [hnn] at hfull
          have HSZ := Lib.hid hSZ
          have HLEN := Lib.hid hLEN
          have hia2 : ia ≤ 20 := by
            rcases Nat.lt_or_ge 20 ia with q | q
            · have := Nat.pow_le_pow_right (n := 2) (by decide) q
              have : 2 ^ 21 ≤ na := by rw [hpa]; exact this
              have h21 : 2 ^ 21 = 2097152 := rfl
              omega
            · exact q
          have HPA := Lib.hid (fun X => power_any ia na hia hia2 hpa X)
          clear hSZ hLEN hna hnm hnn hgr
          by_cases hz : nb = 0
          · subst hz
            obtain rfl : nm = 0 := hst rfl
            have hnle : nn ≤ na := hfull rfl
            have f1 : ¬ (na : Int) < nn := by omega
            clear htwo hfull hmv hst hgb hpa hnb hg5
            go_wp2_with fail
            refine HSZ.out.mono ?_
            rintro e w6 ⟨rfl, hb6⟩
            have HB6 := Lib.hid hb6
            clear hb6
            go_wp2_with (go_at_call 29; refine (HPA.out _).mono ?_; rintro e w7 ⟨rfl, rfl⟩)
            refine (HLEN.out _ HB6.out).mono ?_
            rintro e w8 ⟨rfl, hb8⟩
            have HB8 := Lib.hid (bup HB6.out hb8)
            clear hb8
            go_wp2
            go_roundw
            case rel => exact ⟨i + 1, o5, gA5, sA5, gB5, sB5, by go_num, by omega, by omega, by rw [HTK.out]; exact HP5.out.below' HB8.out, HW5.out.trans (HB8.out.mono HW5.out.size)⟩
            case measure => simp only [intOf]; omega
          · have hmv2 : nm < na := hmv hz
            have c0 : ¬ (nm : Int) < 0 := by omega
            have c1 : ¬ (na : Int) ≤ nm := by omega
            have z0 : ((nb : Int) == 0) = false := beq_eq_false_iff_ne.2 (by omega)
            have z3 : (nb == 0) = false := beq_eq_false_iff_ne.2 hz
            have c2 : ¬ na ≤ nm := by omega
            rcases htwo with h0 | h2 | ⟨h2, h4⟩
            · exact absurd h0 hz
            · have hia3 : ia + 1 ≤ 20 := by
                rcases Nat.lt_or_ge 20 (ia + 1) with q | q
                · have := Nat.pow_le_pow_right (n := 2) (by decide) q
                  have h22 : 2 ^ 21 ≤ 2 ^ (ia + 1) := this
                  have h21 : 2 ^ 21 = 2097152 := rfl
                  have e22 : 2 ^ (ia + 1) = na * 2 := by rw [Nat.pow_succ, ← hpa]
                  rw [e22] at h22
                  omega
                · exact q
              have HPB := Lib.hid (fun X => power_any (ia + 1) nb (by omega) hia3 (by rw [Nat.pow_succ, ← hpa]; omega) X)
              have m1 : IntKind.i64.wrap (2 * (na : Int)) = (nb : Int) := (IntWalk.i64_in _ (by omega)).trans (by omega)
              clear hfull hmv hst hgb hpa hnb hg5 h2 hmv2
              go_wp2_with fail
              refine HSZ.out.mono ?_
              rintro e w6 ⟨rfl, hb6⟩
              have HB6 := Lib.hid hb6
              clear hb6
              go_wp2_with fail
              refine (HPA.out _).mono ?_
              rintro e w7 ⟨rfl, rfl⟩
              go_wp2_with fail
              refine (HPB.out _).mono ?_
              rintro e w7 ⟨rfl, rfl⟩
              go_wp2_with fail
              have HB8 := HB6
              go_roundw
              case rel => exact ⟨i + 1, o5, gA5, sA5, gB5, sB5, by go_num, by omega, by omega, by rw [HTK.out]; exact HP5.out.below' HB8.out, HW5.out.trans (HB8.out.mono HW5.out.size)⟩
              case measure => simp only [intOf]; omega
            · obtain ⟨j, rfl⟩ : ∃ j, ia = j + 1 := ⟨ia - 1, by omega⟩
              rw [Nat.pow_succ] at hpa
              have hbj : nb = 2 ^ j := by omega
              have hj2 : 2 ≤ j := by
                rcases Nat.lt_or_ge j 2 with q | q
                · exfalso
                  have hq : j = 0 ∨ j = 1 := by omega
                  rcases hq with rfl | rfl
                  · have : nb = 1 := hbj
                    omega
                  · have : nb = 2 := hbj
                    omega
                · exact q
              have HPB := Lib.hid (fun X => power_any j nb hj2 (by omega) hbj X)
              have m2 : IntKind.i64.wrap (2 * (nb : Int)) = (na : Int) := (IntWalk.i64_in _ (by omega)).trans (by omega)
              obtain ⟨da, hda⟩ : ∃ d : Nat, 2 * na = d := ⟨_, rfl⟩
              have m1 : IntKind.i64.wrap (2 * (na : Int)) = (da : Int) := (IntWalk.i64_in _ (by omega)).trans (by omega)
              have n3 : ((nb : Int) == (da : Int)) = false := beq_eq_false_iff_ne.2 (by omega)
              have n4 : (nb == da) = false := beq_eq_false_iff_ne.2 (by omega)
              have n5 : ¬ nb = da := by omega
              clear hfull hmv hst hgb hpa hnb hg5 h2 hbj hmv2 hda
              go_wp2_with fail
              refine HSZ.out.mono ?_
              rintro e w6 ⟨rfl, hb6⟩
              have HB6 := Lib.hid hb6
              clear hb6
              go_wp2_with fail
              refine (HPA.out _).mono ?_
              rintro e w7 ⟨rfl, rfl⟩
              go_wp2_with fail
              refine (HPB.out _).mono ?_
              rintro e w7 ⟨rfl, rfl⟩
              go_wp2_with fail
              have HB8 := HB6
              go_roundw
              case rel => exact ⟨i + 1, o5, gA5, sA5, gB5, sB5, by go_num, by omega, by omega, by rw [HTK.out]; exact HP5.out.below' HB8.out, HW5.out.trans (HB8.out.mono HW5.out.size)⟩
              case measure => simp only [intOf]; omega
      · have h200n : ¬ (i : Int) < 200 := by omega
        have h200b : decide ((i : Int) < 200) = false := by simpa using h200n
        have HAL := Lib.hid (alive_any wr)
        go_wp2_with fail
        refine HAL.out.mono ?_
        rintro e w6 ⟨rfl, hb6⟩
        have HB6 := Lib.hid (HBR.out.trans (hb6.mono HBR.out.size))
        clear hb6
        go_wp2
        go_ret
        exact ⟨rfl, HB6.out⟩
    · have hin : ¬ (i : Int) < len := by omega
      have HAL := Lib.hid (alive_any wr)
      go_wp2_with fail
      refine HAL.out.mono ?_
      rintro e w6 ⟨rfl, hb6⟩
      have HB6 := Lib.hid (HBR.out.trans (hb6.mono HBR.out.size))
      clear hb6
      go_wp2
      go_ret
      exact ⟨rfl, HB6.out⟩

end Go.Proofs.Ytekbaajhdilbdaa
