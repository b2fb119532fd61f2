/-
  The walk of TableRuns at any seed and any script.
-/
import Derived.Test.YtekbaajhdilbdaaTcK
namespace Go.Proofs.Ytekbaajhdilbdaa
open Go.RowKit

theorem rowV_form (g n : Nat) : ∃ (R : Option Addr) (c : Nat), rowV g n = .slice R n c := by
  unfold rowV
  split
  · rename_i h
    subst h
    exact ⟨none, 0, rfl⟩
  · exact ⟨_, _, rfl⟩

set_option maxRecDepth 100000 in
set_option maxHeartbeats 16000000 in
theorem tableRuns_any (x : Int) (hlo : 0 ≤ x) (hhi : x ≤ 18446744073709551615) {A : Option Addr} {len cap g o : Nat} {L : List Op4} (W : World) (hL : ScrAt W A len cap g o L) :
    Calls Try.prog 4 #[.int .u64 x, .slice A len cap] W fun e W' => e = .returned (.bool true) ∧ Below W.heap.size W W' := by
  obtain ⟨seed, rfl⟩ : ∃ n : Nat, x = (n : Int) := ⟨x.toNat, by omega⟩
  have hseed : seed < 18446744073709551616 := by omega
  have HLL := Lib.hid hL
  have hle := hL.le
  have hmax := hL.max
  have HNEW := Lib.hid (newI_any seed W)
  have HRN := Lib.hid (fun X => rnew_any seed X)
  clear hL hlo hhi
  go_enter Try.func4, Try.ntmps4
  go_wp2_with fail
  refine HNEW.out.mono ?_
  rintro e w1 ⟨Q, o1, gA, sA, gB, sB, rfl, hp, hb⟩
  have HB1 := Lib.hid hb
  have HP1 := Lib.hid hp
  clear hp hb
  go_wp2_with fail
  refine (HRN.out w1).mono ?_
  rintro e w2 ⟨Q2, o2, gA2, sA2, gB2, sB2, rfl, hr, hb2⟩
  have HT0 : Hid (TwoAt w2 W.heap.size w1.heap.size o1 o2 Q Q2 seed newT newT) := ⟨⟨gA, sA, gB, sB, HP1.out.below' hb2⟩, ⟨gA2, sA2, gB2, sB2, hr⟩, fun k hk => by
    cases hq : o2 k with
    | none => rfl
    | some y => exact absurd (TbOn.dom hr k (by rw [hq]; exact fun e => by cases e)).1 (by have := (TbOn.dom HP1.out k hk).2; omega)⟩
  have HB2 := Lib.hid (HB1.out.trans (hb2.mono HB1.out.size))
  have HW12 : Hid (W.heap.size ≤ w1.heap.size) := HB1.out.size
  clear hr hb2
  obtain ⟨b2, hb2⟩ : ∃ b, w1.heap.size = b := ⟨_, rfl⟩
  rw [hb2] at HT0 HW12
  clear hb2
  go_wp2_with fail
  go_loopw [7, 8, 9, 10] (fun iv _ _ _ wr => ∃ (i : Nat) (p1 p2 : Own), iv = .int .i64 i ∧ i ≤ len ∧ i ≤ 200 ∧ TwoAt wr W.heap.size b2 p1 p2 Q Q2 seed (tabT seed (L.take i)) (tabT seed (L.take i)) ∧ Below W.heap.size W wr) (fun iv _ _ _ _ => len - (intOf iv).toNat)
  case atStart => exact ⟨0, o1, o2, rfl, by omega, by omega, by rw [List.take_zero]; exact HT0.out, HB2.out⟩
  case round =>
    obtain ⟨i, p1, p2, rfl, hi, hi2, ht0, hbr⟩ := hrel
    have HBR := Lib.hid hbr
    obtain ⟨t, ht⟩ : ∃ t, tabT seed (L.take i) = t := ⟨_, rfl⟩
    have HT := Lib.hid ht
    rw [ht] at ht0
    have HTW := Lib.hid ht0
    have HGD : Hid (Good (hashT seed) i t ∧ KeysT (fun k => k.length ≤ 1000) t) := by
      unfold Hid
      have q := tab_good seed (L.take i)
      rw [ht] at q
      exact ⟨q.1.mono (by rw [List.length_take]; omega), q.2⟩
    clear ht0 hbr ht
    by_cases hlt : i < len
    · by_cases h200 : i < 200
      · obtain ⟨op, hop⟩ : ∃ op, L[i]? = some op := ⟨_, List.getElem?_eq_getElem (by rw [HLL.out.len]; exact hlt)⟩
        obtain ⟨rfl, hg⟩ := HLL.out.at_ (by omega)
        obtain ⟨k0, k1, k2, k3⟩ := HLL.out.cells i op hop
        have HFIT := Lib.hid (HLL.out.fits op (List.mem_of_getElem? hop))
        have HTK : Hid (tabT seed (L.take (i + 1)) = actT seed t op.kind (cutK op.key).data.toList op.v) := by
          unfold Hid
          rw [List.take_add_one, hop, Option.toList_some, tabT_snoc, HT.out]
        obtain ⟨okd, okey, ov, odr⟩ := op
        dsimp only at k0 k1 k2 k3 HFIT HTK
        have e0 := (HBR.out.cell (p := ⟨g, o + i * 4, none⟩) hg).trans k0
        have e1 := (HBR.out.cell (p := ⟨g, o + i * 4 + 1, none⟩) hg).trans k1
        have e2 := (HBR.out.cell (p := ⟨g, o + i * 4 + 2, none⟩) hg).trans k2
        have e3 := (HBR.out.cell (p := ⟨g, o + i * 4 + 3, none⟩) hg).trans k3
        have hcc : cap ≤ 9223372036854775807 := hmax
        have hcl : len ≤ cap := hle
        clear k0 k1 k2 k3 hop
        have h200i : (i : Int) < 200 := by omega
        have h200b : decide ((i : Int) < 200) = true := by simpa using h200i
        have HACT := Lib.hid (act_any (m := i) pick_ok hseed HTW.out HGD.out.1 HGD.out.1 (by omega) HGD.out.2 HGD.out.2 okd ov okey HFIT.out.1 odr HFIT.out.2)
        go_wp2_with fail
        refine HACT.out.mono ?_
        rintro e w4 ⟨bb, q1, q2, rfl, hbt, ht4, hu4⟩
        obtain rfl := hbt trivial
        have HT4 := Lib.hid ht4
        have HB4 : Hid (Below W.heap.size W w4) := HBR.out.trans (hu4.below HBR.out.size (fun q hq => by
          have hq2 := fun hn => hq (owU_none.2 hn)
          by_cases h1 : p1 q = none
          · have h2 : p2 q ≠ none := fun h => hq2 ⟨h1, h⟩
            exact Nat.le_trans HW12.out (HTW.out.dom2 h2).1
          · exact (HTW.out.dom1 h1).1))
        have hg4 : Good (hashT seed) (i + 1) (actT seed t okd (cutK okey).data.toList ov) := good_act HGD.out.1 _ _ _
        have hk4 : KeysT (fun k => k.length ≤ 1000) (actT seed t okd (cutK okey).data.toList ov) := keys_act HGD.out.2 _ _ (cut_len _) _
        obtain ⟨t2, ht2⟩ : ∃ t2, actT seed t okd (cutK okey).data.toList ov = t2 := ⟨_, rfl⟩
        rw [ht2] at HT4 HTK hg4 hk4
        clear ht4 hu4 ht2 e0 e1 e2 e3
        obtain ⟨⟨gA4, sA4, gB4, sB4, hp4⟩, ⟨gA5, sA5, gB5, sB5, hr4⟩, -⟩ := HT4.out
        have hSZ := sizesI_any w4 hp4 hg4.kept.pos
        have c1 : w4.cell? ⟨Q2, 1, none⟩ = some (rowV gA5 t2.A.length) := hr4.hd.cell (by omega)
        have c2 : w4.cell? ⟨Q2, 2, none⟩ = some (rowV gB5 t2.B.length) := hr4.hd.cell (by omega)
        have c3 : w4.cell? ⟨Q2, 3, none⟩ = some (.int .i64 t2.moved) := hr4.hd.cell (by omega)
        have c4 : w4.cell? ⟨Q2, 4, none⟩ = some (.int .i64 t2.n) := hr4.hd.cell (by omega)
        have HLN := Lib.hid (fun X (hX : Below w4.heap.size w4 X) => lenI_any X (hp4.below' hX))
        have HIT := Lib.hid (fun X (hX : Below w4.heap.size w4 X) => items_any (hp4.below' hX) hg4 (by omega) hk4)
        have HAL := Lib.hid (fun X (hX : Below w4.heap.size w4 X) => rallT_any X (TbOn.below hr4 hX) hg4 (by omega))
        have hlen4 : (allT t2).length ≤ 100000 := by have := all_length hg4.cnt; have := hg4.n; omega
        have HL4 := Lib.hid hlen4
        obtain ⟨l, hl⟩ : ∃ l, allT t2 = l := ⟨_, rfl⟩
        rw [hl] at HIT HAL HL4
        obtain ⟨na, hna⟩ : ∃ n, t2.A.length = n := ⟨_, rfl⟩
        obtain ⟨nb, hnb⟩ : ∃ n, t2.B.length = n := ⟨_, rfl⟩
        obtain ⟨nm, hnm⟩ : ∃ n, t2.moved = n := ⟨_, rfl⟩
        obtain ⟨nn, hnn⟩ : ∃ n, t2.n = n := ⟨_, rfl⟩
        rw [hna, hnb, hnm] at hSZ
        rw [hnn] at HLN c4
        rw [hna] at c1
        rw [hnb] at c2
        rw [hnm] at c3
        have hQ2 := World.block_lt_of_cell? w4 _ c1
        have HSZ := Lib.hid hSZ
        obtain ⟨Ra, hRa, ha1⟩ := rowV_form gA5 na
        obtain ⟨Rb, hRb, hb1⟩ := rowV_form gB5 nb
        rw [ha1] at c1
        rw [hb1] at c2
        have HC : Hid (∀ X, Below w4.heap.size w4 X → X.cell? ⟨Q2, 1, none⟩ = some (.slice Ra na hRa) ∧ X.cell? ⟨Q2, 2, none⟩ = some (.slice Rb nb hRb) ∧ X.cell? ⟨Q2, 3, none⟩ = some (.int .i64 nm) ∧ X.cell? ⟨Q2, 4, none⟩ = some (.int .i64 nn)) := fun X hX =>
          ⟨(hX.cell (p := ⟨Q2, 1, none⟩) hQ2).trans c1, (hX.cell (p := ⟨Q2, 2, none⟩) hQ2).trans c2, (hX.cell (p := ⟨Q2, 3, none⟩) hQ2).trans c3, (hX.cell (p := ⟨Q2, 4, none⟩) hQ2).trans c4⟩
        clear hSZ hl hna hnb hnm hnn c1 c2 c3 c4 ha1 hb1 hp4 hr4 hg4 hk4 hlen4
        go_wp2_with fail
        refine HSZ.out.mono ?_
        rintro e w5 ⟨rfl, hb5⟩
        have HB5 := Lib.hid hb5
        obtain ⟨f1, f2, f3, f4⟩ := HC.out w5 hb5
        clear hb5
        go_wp2_with fail
        have HK : Hid (∀ X, Below w4.heap.size w4 X → Below w4.heap.size w4 X ∧ X.cell? ⟨Q2, 1, none⟩ = some (.slice Ra na hRa) ∧ X.cell? ⟨Q2, 2, none⟩ = some (.slice Rb nb hRb) ∧ X.cell? ⟨Q2, 3, none⟩ = some (.int .i64 nm) ∧ X.cell? ⟨Q2, 4, none⟩ = some (.int .i64 nn)) := fun X hX => ⟨hX, HC.out X hX⟩
        go_region_held3 (fun X => Below w4.heap.size w4 X ∧ X.cell? ⟨Q2, 1, none⟩ = some (.slice Ra na hRa) ∧ X.cell? ⟨Q2, 2, none⟩ = some (.slice Rb nb hRb) ∧ X.cell? ⟨Q2, 3, none⟩ = some (.int .i64 nm) ∧ X.cell? ⟨Q2, 4, none⟩ = some (.int .i64 nn))
          (first | exact HK.out _ HB9.out | exact HK.out _ HB8.out | exact HK.out _ HB7.out | exact HK.out _ HB6.out | exact HK.out _ HB5.out.drew | exact HK.out _ HB5.out)
          (first
          | (have qq := HRA7; clear qq; go_at_call 19; refine Calls.mono (same_any (HRI7.out _ (Below.refl _ _)) (HRA7.out _ (Below.refl _ _)) HL4.out) ?_; rintro en w9 ⟨rfl, hb9⟩; have HB9 : Hid (Below w4.heap.size w4 w9) := HB8.out.trans (hb9.mono HB8.out.size); clear hb9)
          | (have qq := HRI6; clear qq; go_at_call 21; refine Calls.mono (HAL.out _ HB7.out) ?_; rintro en w8 ⟨va, rfl, hra, hb8⟩; have HRI7 := Lib.hid (fun X (hX : Below w8.heap.size w8 X) => HRI6.out X (hb8.trans (hX.mono hb8.size))); have HRA7 := Lib.hid (fun X (hX : Below w8.heap.size w8 X) => ownsRow_of_block hra (w' := X) (fun b hb => hX.block b (hra.lt b hb).2)); have HB8 : Hid (Below w4.heap.size w4 w8) := HB7.out.trans (hb8.mono HB7.out.size); clear hra hb8)
          | (have qq := HB6; clear qq; go_at_call 20; refine Calls.mono (HIT.out _ HB6.out) ?_; rintro en w7 ⟨vi, rfl, hri, hb7⟩; have HRI6 := Lib.hid (fun X (hX : Below w7.heap.size w7 X) => ownsRow_of_block hri (w' := X) (fun b hb => hX.block b (hri.lt b hb).2)); have HB7 : Hid (Below w4.heap.size w4 w7) := HB6.out.trans (hb7.mono HB6.out.size); clear hri hb7)
          | (go_at_call 18; refine Calls.mono (HLN.out _ (by first | exact HB5.out.drew | exact HB5.out)) ?_; rintro en w6 ⟨rfl, hb6⟩; have HB6 : Hid (Below w4.heap.size w4 w6) := (by first | exact HB5.out.drew.trans (hb6.mono HB5.out.drew.size) | exact HB5.out.trans (hb6.mono HB5.out.size)); clear hb6))
        all_goals
          go_wp2
          go_roundw
          case rel => exact ⟨i + 1, q1, q2, by go_num, by omega, by omega, by rw [HTK.out]; exact (HT4.out.below HB9.out).1, HB4.out.trans (HB9.out.mono HB4.out.size)⟩
          case measure => simp only [intOf]; omega
      · have h200n : ¬ (i : Int) < 200 := by omega
        have h200b : decide ((i : Int) < 200) = false := by simpa using h200n
        have HAL := Lib.hid (alive_any wr)
        go_wp2_with fail
        refine HAL.out.mono ?_
        rintro e w6 ⟨rfl, hb6⟩
        have HB6 := Lib.hid (HBR.out.trans (hb6.mono HBR.out.size))
        clear hb6
        go_wp2
        go_ret
        exact ⟨rfl, HB6.out⟩
    · have hin : ¬ (i : Int) < len := by omega
      have HAL := Lib.hid (alive_any wr)
      go_wp2_with fail
      refine HAL.out.mono ?_
      rintro e w6 ⟨rfl, hb6⟩
      have HB6 := Lib.hid (HBR.out.trans (hb6.mono HBR.out.size))
      clear hb6
      go_wp2
      go_ret
      exact ⟨rfl, HB6.out⟩

end Go.Proofs.Ytekbaajhdilbdaa
