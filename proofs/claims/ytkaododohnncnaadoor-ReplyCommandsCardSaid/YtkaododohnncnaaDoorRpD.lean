/-
  The walks of package resp's upTo and count, and of bytes.IndexByte. Conditions: what is left of the bytes lies in memory as a slice that reads as them.
-/
import Derived.Test.YtkaododohnncnaaDoorRpB
import Derived.Test.YtkaododohnncnaaDoorNumQ
import Derived.Shelf.Bytes.SlIndexAt
import Derived.Deep.QuietTactic
import Derived.BigQuiet
namespace Go.Proofs.YtkaododohnncnaaDoor
open Go.RowKit

theorem idx_find (c : UInt8) : ∀ (f : Nat) (l : List UInt8) (k : Nat), findF c f l k = if Lib.indexByte (l.take f) c = -1 then none else some (k + (Lib.indexByte (l.take f) c).toNat)
  | 0, l, k => by simp [findF, Lib.indexByte]
  | f + 1, [], k => by simp [findF, Lib.indexByte]
  | f + 1, x :: r, k => by
    have e : Lib.indexByte ((x :: r).take (f + 1)) c = if x = c then 0 else if Lib.indexByte (r.take f) c = -1 then -1 else Lib.indexByte (r.take f) c + 1 := by
      rw [List.take_succ_cons, Lib.indexByte]
      simp only [beq_iff_eq]
    rw [e, findF]
    by_cases h : x = c
    · rw [if_pos h, if_pos h]
      simp
    · have hg := Lib.indexByte_ge (r.take f) c
      rw [if_neg h, if_neg h, idx_find c f r (k + 1)]
      by_cases h1 : Lib.indexByte (r.take f) c = -1
      · rw [if_pos h1, if_pos h1, if_pos rfl]
      · rw [if_neg h1, if_neg h1, if_neg (by omega)]
        congr 1
        omega

theorem bytesOf_toNat (l : List UInt8) : Lib.bytesOf (l.map fun c => (c.toNat : Int)) = l := by
  unfold Lib.bytesOf
  rw [List.map_map]
  conv => rhs; rw [← List.map_id l]
  apply List.map_congr_left
  intro c _
  simp

set_option maxRecDepth 100000 in
set_option maxHeartbeats 1000000 in
theorem pindex_any (c : UInt8) (b o cap : Nat) (l : List UInt8) (w : World) (hc : BytesAt w b o l) :
    Calls Tryd.prog 110 #[.slice (some ⟨b, o, none⟩) l.length cap, .int .u8 (c.toNat : Int)] w fun e w' => e = .returned (.int .i64 (Lib.indexByte l c)) ∧ w = w' := by
  have hr := Lib.run_indexByteAt (P := Tryd.prog) w ⟨b, o, none⟩ l.length cap (l.map fun c => (c.toNat : Int)) (by simp) (fun i hi => by
    rw [Go.WideShapes.add_plain, hc i hi]
    simp [List.getD_eq_getElem?_getD, List.getElem?_eq_getElem hi]) (c.toNat : Int)
  rw [bytesOf_toNat, show ((c.toNat : Int)).toNat.toUInt8 = c from by simp] at hr
  go_enter Tryd.func110, Tryd.ntmps110
  go_wp2
  rw [run_callFunc_extern Tryd.func127 (by kernel_rfl) (by kernel_rfl) (by kernel_rfl) (e := Extern.BytealgIndexByte.indexByte) (by kernel_rfl), hr]
  simp only [Result.andThen]
  rw [Oper.upon_value]
  go_wp2
  go_ret
  exact ⟨rfl, rfl⟩

/-- What upTo tells. -/
def UpPost (w : World) (B b : Nat) (c : UInt8) (big l : List UInt8) (e : Ending) (w' : World) : Prop :=
  match findL c l with
  | none => if 65536 < l.length then Thrown big e ∧ Below w.heap.size w w' else e = .returned (.tuple #[.slice none 0 0, .bool false]) ∧ Below w.heap.size w w'
  | some k => ∃ t v', e = .returned (.tuple #[t, .bool true]) ∧ LeftV w b t (l.take k) ∧ LeftV w b v' (l.drop (k + 1)) ∧ Put w ⟨B, 0, none⟩ v' w'

set_option maxRecDepth 100000 in
set_option maxHeartbeats 2000000 in
theorem pupTo_any (B b : Nat) (v : Value) (c : UInt8) (big l : List UInt8) (w : World) (hB : B < w.heap.size) (hc : w.cell? ⟨B, 0, none⟩ = some v) (hf : w.frozen? ⟨B, 0, none⟩ = false) (hl : LeftV w b v l) :
    Calls Tryd.prog 92 #[.pointer (some ⟨B, 0, none⟩), .int .u8 (c.toNat : Int), .string ⟨big.toArray⟩] w (UpPost w B b c big l) := by
  obtain ⟨o, cap, rfl, h1, h2, h3⟩ := hl
  have H3 := Lib.hid h3
  clear h3
  have hix := idx_find c 65536 l 0
  have hge := Lib.indexByte_ge (l.take 65536) c
  unfold UpPost findL
  obtain ⟨m, hm⟩ : ∃ m, (l.take 65536).length = m := ⟨_, rfl⟩
  have hm2 : m = min l.length 65536 := by rw [← hm, List.length_take]; omega
  have HP := Lib.hid (fun (x : Nat) W (h : BytesAt W b o l) => pindex_any c b o x (l.take 65536) W (h.take 65536))
  rw [hm] at HP
  obtain ⟨i, hi⟩ : ∃ i, Lib.indexByte (l.take 65536) c = i := ⟨_, rfl⟩
  rw [hi] at hix hge HP
  obtain ⟨x, hx⟩ : ∃ x : Nat, c.toNat = x := ⟨_, rfl⟩
  rw [hx] at HP ⊢
  have HX := Lib.hid hix
  have HI := Lib.hid hi
  have hmin : min (l.length : Int) 65536 = (m : Int) := by omega
  have hm3 : m ≤ l.length := by omega
  clear hi hx hm hix
  by_cases h0 : i = -1
  · subst h0
    have HN : Hid (findF c 65536 l 0 = none) := HX.out
    clear hm2
    rw [HN.out]
    dsimp only
    by_cases hbig : 65536 < l.length
    · simp only [if_pos hbig]
      go_enter Tryd.func92, Tryd.ntmps92
      go_wp2
      go_quiet (fail)
      go_wp2_with fail
      refine (HP.out _ _ (by exact H3.out)).mono ?_
      rintro e w' ⟨rfl, rfl⟩
      go_wp2
      exact ⟨rfl, rfl, below_drewN (Below.refl _ _) _⟩
    · simp only [if_neg hbig]
      go_enter Tryd.func92, Tryd.ntmps92
      go_wp2
      go_quiet (fail)
      go_wp2_with fail
      refine (HP.out _ _ (by exact H3.out)).mono ?_
      rintro e w' ⟨rfl, rfl⟩
      go_wp2
      go_ret2
      exact ⟨rfl, below_drewN (Below.refl _ _) _⟩
  · obtain ⟨k, rfl⟩ : ∃ k : Nat, i = k := ⟨i.toNat, by omega⟩
    have HN : Hid (findF c 65536 l 0 = some k) := by unfold Hid; rw [HX.out, if_neg h0]; simp
    obtain ⟨k1, k2, _⟩ := findL_le (c := c) (l := l) (k := k) HN.out
    have hkm : k < m := by omega
    clear hm2
    rw [HN.out]
    dsimp only
    clear h0 hge
    rcases Nat.lt_or_ge (k + 1) cap with hnc | hnc
    · go_enter Tryd.func92, Tryd.ntmps92
      go_wp2
      go_quiet (fail)
      go_wp2_with fail
      refine (HP.out _ _ (by exact H3.out)).mono ?_
      rintro e w' ⟨rfl, rfl⟩
      go_wp2
      go_ret2
      exact ⟨_, rfl, leftv (H3.out.take k) (by rw [List.length_take]; omega) (by omega) (by omega), _, leftv (H3.out.cut (k + 1)) (by rw [List.length_drop]) (by omega) (by omega), (Put.set w _ hB).below (below_drewN (Below.refl _ _) _)⟩
    · obtain rfl : cap = k + 1 := by omega
      obtain rfl : m = k + 1 := by omega
      have hlk := Lib.hid (show l.length = k + 1 by omega)
      go_enter Tryd.func92, Tryd.ntmps92
      go_wp2
      go_quiet (fail)
      go_wp2_with fail
      refine (HP.out _ _ (by exact H3.out)).mono ?_
      rintro e w' ⟨rfl, rfl⟩
      go_wp2
      go_ret2
      exact ⟨_, rfl, leftv (H3.out.take k) (by rw [List.length_take]; omega) (by omega) (by omega), _, leftv (l := l.drop (k + 1)) (by rw [List.drop_eq_nil_of_le (by omega)]; exact bytes_nil _ _ _) (by rw [List.length_drop]; omega) (by omega) (by omega), (Put.set w _ hB).below (below_drewN (Below.refl _ _) _)⟩

/-- What count tells. -/
def CountPost (w : World) (B b : Nat) (least most : Int) (big wrong l : List UInt8) (e : Ending) (w' : World) : Prop :=
  match headS big l with
  | none => e = .returned (.tuple #[.int .i64 0, .bool false]) ∧ ∃ v', Put w ⟨B, 0, none⟩ v' w'
  | some (.inl f) => Thrown f e ∧ Below w.heap.size w w'
  | some (.inr (t, nx)) => match parseV t with
    | none => Thrown wrong e ∧ ∃ v', Put w ⟨B, 0, none⟩ v' w'
    | some n => if n < least ∨ most < n then Thrown wrong e ∧ ∃ v', Put w ⟨B, 0, none⟩ v' w' else
      ∃ v', e = .returned (.tuple #[.int .i64 n, .bool true]) ∧ LeftV w b v' (l.drop nx) ∧ Put w ⟨B, 0, none⟩ v' w'

set_option maxRecDepth 100000 in
set_option maxHeartbeats 2000000 in
theorem pcount_any (B b : Nat) (v : Value) (least most : Int) (big wrong l : List UInt8) (w : World) (hB : B < w.heap.size) (hb : b < w.heap.size) (hn : b ≠ B) (hc : w.cell? ⟨B, 0, none⟩ = some v) (hf : w.frozen? ⟨B, 0, none⟩ = false) (hl : LeftV w b v l) (h13 : l.getD 0 0 ≠ 13) :
    Calls Tryd.prog 90 #[.pointer (some ⟨B, 0, none⟩), .int .i64 least, .int .i64 most, .string ⟨(perrB ++ big).toArray⟩, .string ⟨wrong.toArray⟩] w (CountPost w B b least most big wrong l) := by
  have HUP := Lib.hid (pupTo_any B b v 13 (perrB ++ big) l w hB hc hf hl)
  unfold UpPost at HUP
  unfold CountPost
  cases hf1 : findL 13 l with
  | none =>
    have hS : headS big l = if 65536 < l.length then some (.inl (perrB ++ big)) else none := by unfold headS; rw [hf1]
    rw [hf1] at HUP
    by_cases hbig : 65536 < l.length
    · rw [if_pos hbig] at hS
      simp only [if_pos hbig] at HUP
      rw [hS]
      dsimp only
      clear hf1 hS hbig
      go_enter Tryd.func90, Tryd.ntmps90
      go_wp2_with fail
      refine HUP.out.mono ?_
      rintro e w' ⟨rfl, hb'⟩
      go_wp2
      exact ⟨rfl, rfl, hb'⟩
    · rw [if_neg hbig] at hS
      simp only [if_neg hbig] at HUP
      rw [hS]
      dsimp only
      clear hf1 hS hbig
      go_enter Tryd.func90, Tryd.ntmps90
      go_wp2_with fail
      refine HUP.out.mono ?_
      rintro e w' ⟨rfl, hb'⟩
      go_wp2
      go_ret2
      exact ⟨rfl, v, (Put.refl hc hB).below hb'⟩
  | some k =>
    obtain ⟨k1, k2, k3⟩ := findL_le hf1
    have hk0 : 0 < k := by
      rcases Nat.eq_zero_or_pos k with h | h
      · subst h; exact absurd k3 h13
      · exact h
    have hS : headS big l = if l.length ≤ k + 1 then none else some (.inr ((l.take k).drop 1, k + 2)) := by unfold headS; rw [hf1]
    rw [hf1] at HUP
    dsimp only at HUP
    have htl : (l.take k).length = k := by rw [List.length_take]; omega
    by_cases hend : l.length ≤ k + 1
    · rw [if_pos hend] at hS
      rw [hS]
      dsimp only
      have hdl : (l.drop (k + 1)).length < 1 := by rw [List.length_drop]; omega
      clear hf1 hS k3 h13
      go_enter Tryd.func90, Tryd.ntmps90
      go_wp2_with fail
      refine HUP.out.mono ?_
      rintro e w1 ⟨t, v1, rfl, ht, hv1, hp1⟩
      go_wp2_with fail
      refine (ptake_no B b 1 v1 _ _ (hp1.cell hc) (hv1.put hp1 hb hn) hdl).mono ?_
      rintro e w2 ⟨rfl, rfl⟩
      go_wp2
      go_ret2
      exact ⟨rfl, _, hp1⟩
    · rw [if_neg hend] at hS
      rw [hS]
      dsimp only
      obtain ⟨t0, ht0⟩ : ∃ t0, (l.take k).drop 1 = t0 := ⟨_, rfl⟩
      rw [ht0]
      have hdl : 1 ≤ (l.drop (k + 1)).length := by rw [List.length_drop]; omega
      have hdd : (l.drop (k + 1)).drop 1 = l.drop (k + 2) := by rw [List.drop_drop]
      have hts : (⟨t0.toArray⟩ : ByteArray).size ≤ 9223372036854775807 := by show t0.toArray.size ≤ _; rw [List.size_toArray, ← ht0, List.length_drop]; omega
      have HTS := Lib.hid hts
      have HT0 := Lib.hid ht0
      have HDD := Lib.hid hdd
      have HTL := Lib.hid htl
      clear hf1 hS k3 h13 hts ht0 hdd htl
      cases hpv : parseV t0 with
      | none =>
        dsimp only
        go_enter Tryd.func90, Tryd.ntmps90
        go_wp2_with fail
        refine HUP.out.mono ?_
        rintro e w1 ⟨t, v1, rfl, ht, hv1, hp1⟩
        go_wp2_with fail
        refine (ptake_ok B b 1 v1 _ _ (Nat.lt_of_lt_of_le hB hp1.size) (hp1.cell hc) ((hp1.frozen hB).trans hf) (hv1.put hp1 hb hn) hdl).mono ?_
        rintro e w2 ⟨t2, v2, rfl, ht2, hv2, hp2⟩
        obtain ⟨o, cap, rfl, a1, a2, a3⟩ := (ht.put hp1 hb hn).put hp2 (Nat.lt_of_lt_of_le hb hp1.size) hn
        rw [HTL.out] at a1 ⊢
        have HPP := Lib.hid (hp1.trans hp2)
        have HV2 := Lib.hid (hv2.back hp1 hb hn)
        have A3 := Lib.hid a3
        clear ht a3 ht2 hv2 hv1 hp1 hp2
        rcases Nat.lt_or_ge 1 cap with hnc | hnc
        · have hcv := conv_part w2 b o (o + 1) (k - 1) (cap - 1) (l.take k) t0 A3.out 1 rfl (by rw [← HT0.out]; exact (List.take_of_length_le (by rw [List.length_drop, HTL.out]; exact Nat.le_refl _)).symm) (by rw [HTL.out]; omega) w2 (fun _ _ => rfl)
          go_wp2_with fail
          refine (parse_any ⟨t0.toArray⟩ _ HTS.out).mono ?_
          rintro e w3 ⟨rfl, hb3⟩
          rw [show (ByteArray.mk t0.toArray).data.toList = t0 from by simp, hpv]
          clear hcv
          simp only [valV, errV, Option.isSome_none, Option.getD_none, Bool.false_eq_true, if_false]
          go_wp2
          exact ⟨rfl, rfl, _, HPP.out.below hb3⟩
        · obtain rfl : cap = 1 := by omega
          obtain rfl : k = 1 := by omega
          obtain rfl : t0 = [] := by rw [← HT0.out]; exact List.drop_eq_nil_of_le (by rw [HTL.out]; omega)
          have hcv := conv_bytes w2 b o 0 [] (bytes_nil _ _ _)
          rw [List.length_nil] at hcv
          go_wp2_with fail
          refine (parse_any ⟨([] : List UInt8).toArray⟩ _ HTS.out).mono ?_
          rintro e w3 ⟨rfl, hb3⟩
          rw [show (ByteArray.mk ([] : List UInt8).toArray).data.toList = [] from by simp, hpv]
          clear hcv
          simp only [valV, errV, Option.isSome_none, Option.getD_none, Bool.false_eq_true, if_false]
          go_wp2
          exact ⟨rfl, rfl, _, HPP.out.below hb3⟩
      | some n =>
        dsimp only
        by_cases hlo : n < least
        · simp only [if_pos (Or.inl hlo : n < least ∨ most < n)]
          go_enter Tryd.func90, Tryd.ntmps90
          go_wp2_with fail
          refine HUP.out.mono ?_
          rintro e w1 ⟨t, v1, rfl, ht, hv1, hp1⟩
          go_wp2_with fail
          refine (ptake_ok B b 1 v1 _ _ (Nat.lt_of_lt_of_le hB hp1.size) (hp1.cell hc) ((hp1.frozen hB).trans hf) (hv1.put hp1 hb hn) hdl).mono ?_
          rintro e w2 ⟨t2, v2, rfl, ht2, hv2, hp2⟩
          obtain ⟨o, cap, rfl, a1, a2, a3⟩ := (ht.put hp1 hb hn).put hp2 (Nat.lt_of_lt_of_le hb hp1.size) hn
          rw [HTL.out] at a1 ⊢
          have HPP := Lib.hid (hp1.trans hp2)
          have HV2 := Lib.hid (hv2.back hp1 hb hn)
          have A3 := Lib.hid a3
          clear ht a3 ht2 hv2 hv1 hp1 hp2
          rcases Nat.lt_or_ge 1 cap with hnc | hnc
          · have hcv := conv_part w2 b o (o + 1) (k - 1) (cap - 1) (l.take k) t0 A3.out 1 rfl (by rw [← HT0.out]; exact (List.take_of_length_le (by rw [List.length_drop, HTL.out]; exact Nat.le_refl _)).symm) (by rw [HTL.out]; omega) w2 (fun _ _ => rfl)
            go_wp2_with fail
            refine (parse_any ⟨t0.toArray⟩ _ HTS.out).mono ?_
            rintro e w3 ⟨rfl, hb3⟩
            rw [show (ByteArray.mk t0.toArray).data.toList = t0 from by simp, hpv]
            clear hcv
            simp only [valV, errV, Option.isSome_some, Option.getD_some, if_true]
            go_wp2
            exact ⟨rfl, rfl, _, HPP.out.below hb3⟩
          · obtain rfl : cap = 1 := by omega
            obtain rfl : k = 1 := by omega
            obtain rfl : t0 = [] := by rw [← HT0.out]; exact List.drop_eq_nil_of_le (by rw [HTL.out]; omega)
            have hcv := conv_bytes w2 b o 0 [] (bytes_nil _ _ _)
            rw [List.length_nil] at hcv
            go_wp2_with fail
            refine (parse_any ⟨([] : List UInt8).toArray⟩ _ HTS.out).mono ?_
            rintro e w3 ⟨rfl, hb3⟩
            rw [show (ByteArray.mk ([] : List UInt8).toArray).data.toList = [] from by simp, hpv]
            clear hcv
            simp only [valV, errV, Option.isSome_some, Option.getD_some, if_true]
            go_wp2
            exact ⟨rfl, rfl, _, HPP.out.below hb3⟩
        · by_cases hhi : most < n
          · simp only [if_pos (Or.inr hhi : n < least ∨ most < n)]
            go_enter Tryd.func90, Tryd.ntmps90
            go_wp2_with fail
            refine HUP.out.mono ?_
            rintro e w1 ⟨t, v1, rfl, ht, hv1, hp1⟩
            go_wp2_with fail
            refine (ptake_ok B b 1 v1 _ _ (Nat.lt_of_lt_of_le hB hp1.size) (hp1.cell hc) ((hp1.frozen hB).trans hf) (hv1.put hp1 hb hn) hdl).mono ?_
            rintro e w2 ⟨t2, v2, rfl, ht2, hv2, hp2⟩
            obtain ⟨o, cap, rfl, a1, a2, a3⟩ := (ht.put hp1 hb hn).put hp2 (Nat.lt_of_lt_of_le hb hp1.size) hn
            rw [HTL.out] at a1 ⊢
            have HPP := Lib.hid (hp1.trans hp2)
            have HV2 := Lib.hid (hv2.back hp1 hb hn)
            have A3 := Lib.hid a3
            clear ht a3 ht2 hv2 hv1 hp1 hp2
            rcases Nat.lt_or_ge 1 cap with hnc | hnc
            · have hcv := conv_part w2 b o (o + 1) (k - 1) (cap - 1) (l.take k) t0 A3.out 1 rfl (by rw [← HT0.out]; exact (List.take_of_length_le (by rw [List.length_drop, HTL.out]; exact Nat.le_refl _)).symm) (by rw [HTL.out]; omega) w2 (fun _ _ => rfl)
              go_wp2_with fail
              refine (parse_any ⟨t0.toArray⟩ _ HTS.out).mono ?_
              rintro e w3 ⟨rfl, hb3⟩
              rw [show (ByteArray.mk t0.toArray).data.toList = t0 from by simp, hpv]
              clear hcv
              simp only [valV, errV, Option.isSome_some, Option.getD_some, if_true]
              go_wp2
              exact ⟨rfl, rfl, _, HPP.out.below hb3⟩
            · obtain rfl : cap = 1 := by omega
              obtain rfl : k = 1 := by omega
              obtain rfl : t0 = [] := by rw [← HT0.out]; exact List.drop_eq_nil_of_le (by rw [HTL.out]; omega)
              have hcv := conv_bytes w2 b o 0 [] (bytes_nil _ _ _)
              rw [List.length_nil] at hcv
              go_wp2_with fail
              refine (parse_any ⟨([] : List UInt8).toArray⟩ _ HTS.out).mono ?_
              rintro e w3 ⟨rfl, hb3⟩
              rw [show (ByteArray.mk ([] : List UInt8).toArray).data.toList = [] from by simp, hpv]
              clear hcv
              simp only [valV, errV, Option.isSome_some, Option.getD_some, if_true]
              go_wp2
              exact ⟨rfl, rfl, _, HPP.out.below hb3⟩
          · have hno : ¬ (n < least ∨ most < n) := by omega
            simp only [if_neg hno]
            clear hno
            go_enter Tryd.func90, Tryd.ntmps90
            go_wp2_with fail
            refine HUP.out.mono ?_
            rintro e w1 ⟨t, v1, rfl, ht, hv1, hp1⟩
            go_wp2_with fail
            refine (ptake_ok B b 1 v1 _ _ (Nat.lt_of_lt_of_le hB hp1.size) (hp1.cell hc) ((hp1.frozen hB).trans hf) (hv1.put hp1 hb hn) hdl).mono ?_
            rintro e w2 ⟨t2, v2, rfl, ht2, hv2, hp2⟩
            obtain ⟨o, cap, rfl, a1, a2, a3⟩ := (ht.put hp1 hb hn).put hp2 (Nat.lt_of_lt_of_le hb hp1.size) hn
            rw [HTL.out] at a1 ⊢
            have HPP := Lib.hid (hp1.trans hp2)
            have HV2 := Lib.hid (hv2.back hp1 hb hn)
            have A3 := Lib.hid a3
            clear ht a3 ht2 hv2 hv1 hp1 hp2
            rcases Nat.lt_or_ge 1 cap with hnc | hnc
            · have hcv := conv_part w2 b o (o + 1) (k - 1) (cap - 1) (l.take k) t0 A3.out 1 rfl (by rw [← HT0.out]; exact (List.take_of_length_le (by rw [List.length_drop, HTL.out]; exact Nat.le_refl _)).symm) (by rw [HTL.out]; omega) w2 (fun _ _ => rfl)
              go_wp2_with fail
              refine (parse_any ⟨t0.toArray⟩ _ HTS.out).mono ?_
              rintro e w3 ⟨rfl, hb3⟩
              rw [show (ByteArray.mk t0.toArray).data.toList = t0 from by simp, hpv]
              clear hcv
              simp only [valV, errV, Option.isSome_some, Option.getD_some, if_true]
              go_wp2
              go_ret2
              exact ⟨_, rfl, by rw [← HDD.out]; exact HV2.out, HPP.out.below hb3⟩
            · obtain rfl : cap = 1 := by omega
              obtain rfl : k = 1 := by omega
              obtain rfl : t0 = [] := by rw [← HT0.out]; exact List.drop_eq_nil_of_le (by rw [HTL.out]; omega)
              have hcv := conv_bytes w2 b o 0 [] (bytes_nil _ _ _)
              rw [List.length_nil] at hcv
              go_wp2_with fail
              refine (parse_any ⟨([] : List UInt8).toArray⟩ _ HTS.out).mono ?_
              rintro e w3 ⟨rfl, hb3⟩
              rw [show (ByteArray.mk ([] : List UInt8).toArray).data.toList = [] from by simp, hpv]
              clear hcv
              simp only [valV, errV, Option.isSome_some, Option.getD_some, if_true]
              go_wp2

end Go.Proofs.YtkaododohnncnaaDoor
