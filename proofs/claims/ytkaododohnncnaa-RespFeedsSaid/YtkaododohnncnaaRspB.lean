/-
  The walk of the document's own bulk. Conditions: the bytes lie in memory as a slice that reads as them.
-/
import Derived.Test.YtkaododohnncnaaRspR
namespace Go.Proofs.Ytkaododohnncnaa
open Go.RowKit
set_option maxHeartbeats 1000000 in
theorem rbulk_end (b o cap : Nat) (l : List UInt8) (w : World) :
    Calls Try.prog 28 #[.slice (some ⟨b, o, none⟩) l.length cap, .int .i64 l.length] w fun e w' => e = .returned (headV l.length none) ∧ Below w.heap.size w w' := by
  go_enter Try.func28, Try.ntmps28
  go_wp2
  refine bodyPost_ret (v := headV l.length none) ?_ rfl ⟨rfl, ?_⟩
  · simp [results, Try.results28, go_sem, fndV, headV]
  · exact (Below.refl _ _).alloc (Nat.le_refl _) _

set_option maxHeartbeats 1000000 in
theorem rbulk_other (b o cap at_ : Nat) (l : List UInt8) (w : World) (hat : at_ < l.length) (h36 : l.getD at_ 0 ≠ 36) (hb : b < w.heap.size) (hc : BytesAt w b o l) :
    Calls Try.prog 28 #[.slice (some ⟨b, o, none⟩) l.length cap, .int .i64 at_] w fun e w' => e = .returned (headV at_ (bulkS (l.drop at_))) ∧ Below w.heap.size w w' := by
  obtain ⟨c, hcc⟩ : ∃ c, l.getD at_ 0 = c := ⟨_, rfl⟩
  have hS : bulkS (l.drop at_) = some (.inl (perrB ++ (expB ++ shownS c ++ [39]))) := by
    rw [drop_cons l at_ hat, hcc]
    exact bulkS_other c _ (by rw [← hcc]; exact h36)
  have HS := Lib.hid hS
  have hcell := hc at_ hat
  rw [hcc] at hcell h36
  have h36' : ((c.toNat : Int) != 36) = true := by
    rw [bne_iff_ne]
    intro e
    exact h36 (UInt8.toNat_inj.1 (by rw [show (36 : UInt8).toNat = 36 from rfl]; omega))
  have hcell2 := fun ob : Obj => (World.cell?_alloc_lt w ob ⟨b, o + at_, none⟩ hb).trans hcell
  have hsl : (shownS c).length ≤ 1 := by rw [shown_length c]; exact Nat.le_refl _
  have hadd := exp_add (shownS c)
  have hsl2 : (expB ++ shownS c ++ [39]).length ≤ 100000 := by simp [shown_length, expB]
  clear hS hc hcc h36 hcell
  obtain ⟨x, hx⟩ : ∃ x : Nat, c.toNat = x := ⟨_, rfl⟩
  rw [hx] at h36' hcell2
  have hx255 : x < 256 := by rw [← hx]; exact UInt8.toNat_lt c
  have HX := Lib.hid hx
  clear hx
  go_enter Try.func28, Try.ntmps28
  go_wp2_with fail
  rw [← HX.out]
  refine (rshown_any c _).mono ?_
  rintro e w1 ⟨rfl, hb1⟩
  have hz1 := hb1.size
  simp only [World.size_alloc] at hz1
  go_wp2_with fail
  refine (rwrong_any _ _ hsl2).mono ?_
  rintro e w2 ⟨rfl, hb2⟩
  unfold fndV
  have hb12 := hb1.trans (hb2.mono hb1.size)
  obtain ⟨hcc, hff⟩ := bcell hb12
  have hz2 := hb12.size
  simp only [World.size_alloc] at hcc hff hz2
  go_wp2
  refine bodyPost_ret (v := headV at_ (bulkS (l.drop at_))) ?_ rfl ⟨rfl, below_cell4 (((Below.refl _ _).alloc (Nat.le_refl _) _).trans (hb12.mono (by simp))) (Nat.le_refl _) _ _ _ _⟩
  rw [HS.out]
  simp [results, Try.results28, go_sem, fndV, headV, hcc]

set_option maxHeartbeats 2000000 in
theorem rbulk_dollar (b o cap at_ : Nat) (l : List UInt8) (w : World) (hl : l.length ≤ cap) (hcap : cap ≤ 9223372036854775807) (hat : at_ < l.length) (h36 : l.getD at_ 0 = 36) (hb : b < w.heap.size) (hc : BytesAt w b o l) :
    Calls Try.prog 28 #[.slice (some ⟨b, o, none⟩) l.length cap, .int .i64 at_] w fun e w' => e = .returned (headV at_ (bulkS (l.drop at_))) ∧ Below w.heap.size w w' := by
  have hd : l.drop at_ = 36 :: l.drop (at_ + 1) := by rw [drop_cons l at_ hat, h36]
  have hcell := hc at_ hat
  rw [h36, show ((36 : UInt8).toNat : Int) = 36 from rfl] at hcell
  have hcell2 := fun ob : Obj => (World.cell?_alloc_lt w ob ⟨b, o + at_, none⟩ hb).trans hcell
  have HD := Lib.hid hd
  have HC := Lib.hid hc
  have H13 : Hid (l.getD at_ 0 ≠ 13) := by unfold Hid; rw [h36]; decide
  clear hcell hd hc h36
  have hbig : bigB.length ≤ 1000 := by decide
  have hlen : (36 :: l.drop (at_ + 1)).length = l.length - at_ := by rw [← HD.out, List.length_drop]
  have HLEN := Lib.hid hlen
  clear hlen
  go_enter Try.func28, Try.ntmps28
  go_wp2_with fail
  refine (rhead_any bigB b o cap at_ l _ hbig hl hcap hat H13.out (by simp; omega) (fun j hj => (World.cell?_alloc_lt w _ ⟨b, o + j, none⟩ hb).trans (HC.out j hj))).mono ?_
  rintro e w1 ⟨rfl, hb1⟩
  rw [HD.out]
  have hz1 := hb1.size
  simp only [World.size_alloc] at hz1
  obtain ⟨hc1, hf1⟩ := bcell hb1
  have q0 := fun ob : Obj => (World.cell?_alloc_lt w1 ob ⟨w.heap.size, 0, none⟩ (show w.heap.size < w1.heap.size by omega)).trans ((hc1 w.heap.size 0 (by simp)).trans (show _ = some (Value.int .i64 0) by simp))
  have q1 := fun ob : Obj => (World.cell?_alloc_lt w1 ob ⟨w.heap.size, 1, none⟩ (show w.heap.size < w1.heap.size by omega)).trans ((hc1 w.heap.size 1 (by simp)).trans (show _ = some (Value.int .i64 0) by simp))
  have q2 := fun ob : Obj => (World.cell?_alloc_lt w1 ob ⟨w.heap.size, 2, none⟩ (show w.heap.size < w1.heap.size by omega)).trans ((hc1 w.heap.size 2 (by simp)).trans (show _ = some (Value.slice none 0 0) by simp))
  have q3 := fun ob : Obj => (World.cell?_alloc_lt w1 ob ⟨w.heap.size, 3, none⟩ (show w.heap.size < w1.heap.size by omega)).trans ((hc1 w.heap.size 3 (by simp)).trans (show _ = some (Value.string ⟨#[]⟩) by simp))
  have p0 := fun (ob : Obj) (j : Nat) => (World.frozen?_alloc_old (w := w1) (o := ob) (a := ⟨w.heap.size, j, none⟩) (show w.heap.size ≠ w1.heap.size by omega)).trans ((hf1 w.heap.size j (by simp)).trans (show _ = false by simp))
  simp only [World.size_alloc] at hc1 hf1
  have hz0 : w.heap.size < w1.heap.size := by omega
  have hbase : Below w.heap.size w w1 := ((Below.refl _ _).alloc (Nat.le_refl _) _).trans (hb1.mono (by simp))
  cases hh : headS bigB (36 :: l.drop (at_ + 1)) with
  | none =>
    have HS := Lib.hid (bulkS_wait hh)
    clear hh
    simp only [headV, fndV]
    go_wp2
    go_region
    all_goals go_wp2
    all_goals
      refine bodyPost_ret (v := headV at_ (bulkS (l.drop at_))) ?_ rfl ⟨rfl, ?_⟩
      · rw [HD.out, HS.out]
        simp [results, Try.results28, go_sem, fndV, headV, hc1, hz0]
      · repeat (first | exact below_cell4 hbase (Nat.le_refl _) _ _ _ _ | (refine Below.drew ?_) | (refine Below.alloc ?_ (by simp; omega) _))
  | some x =>
    rcases x with f | ⟨t, nx⟩
    · have HS := Lib.hid (bulkS_big hh)
      clear hh
      simp only [headV, fndV]
      go_wp2
      go_region
      all_goals go_wp2
      all_goals
        refine bodyPost_ret (v := headV at_ (bulkS (l.drop at_))) ?_ rfl ⟨rfl, ?_⟩
        · rw [HD.out, HS.out]
          simp [results, Try.results28, go_sem, fndV, headV, hc1, hz0]
        · repeat (first | exact below_cell4 hbase (Nat.le_refl _) _ _ _ _ | (refine Below.drew ?_) | (refine Below.alloc ?_ (by simp; omega) _))
    · obtain ⟨n1, n2, n3⟩ := headS_inr hh
      rw [HLEN.out] at n2
      have HH := Lib.hid hh
      clear hh
      have hts : (⟨t.toArray⟩ : ByteArray).size ≤ 9223372036854775807 := by show t.toArray.size ≤ _; rw [List.size_toArray]; omega
      have HTS := Lib.hid hts
      clear hts
      simp only [headV, fndV]
      go_wp2_with fail
      refine (refParse_all ⟨t.toArray⟩ _ HTS.out).mono ?_
      rintro e w' ⟨rfl, rfl⟩
      rw [show (ByteArray.mk t.toArray).data.toList = t from by simp]
      cases hp : parseV t with
      | none =>
        have HS := Lib.hid (bulkS_nan HH.out hp)
        clear hp
        simp only [valV, errV, Option.isSome_none, Option.getD_none, Bool.false_eq_true, if_false]
        go_wp2_with fail
        refine (rwrong_any badB _ (by decide)).mono ?_
        rintro e w3 ⟨rfl, hb3⟩
        unfold fndV
        have hb13 : Below w1.heap.size w1 w3 := ((Below.refl _ _).alloc (Nat.le_refl _) _).trans (hb3.mono (by simp))
        obtain ⟨hc3, hf3⟩ := bcell hb13
        have hz3 := hb13.size
        have hbase3 : Below w.heap.size w w3 := hbase.trans (hb13.mono (by omega))
        go_wp2
        refine bodyPost_ret (v := headV at_ (bulkS (l.drop at_))) ?_ rfl ⟨rfl, ?_⟩
        · rw [HD.out, HS.out]
          simp [results, Try.results28, go_sem, fndV, headV, hc1, hc3, hz0]
        · exact below_cell4 hbase3 (Nat.le_refl _) _ _ _ _
      | some n =>
        simp only [valV, errV, Option.isSome_some, Option.getD_some, if_true]
        by_cases hn : n < 0 ∨ 65536 < n
        · have HS := Lib.hid (bulkS_out HH.out hp hn)
          clear hp
          rcases hn with hn | hn
          all_goals
            go_wp2_with fail
            refine (rwrong_any badB _ (by decide)).mono ?_
            rintro e w3 ⟨rfl, hb3⟩
            unfold fndV
            have hb13 : Below w1.heap.size w1 w3 := ((Below.refl _ _).alloc (Nat.le_refl _) _).trans (hb3.mono (by simp))
            obtain ⟨hc3, hf3⟩ := bcell hb13
            have hz3 := hb13.size
            have hbase3 : Below w.heap.size w w3 := hbase.trans (hb13.mono (by omega))
            go_wp2
            refine bodyPost_ret (v := headV at_ (bulkS (l.drop at_))) ?_ rfl ⟨rfl, ?_⟩
            · rw [HD.out, HS.out]
              simp [results, Try.results28, go_sem, fndV, headV, hc1, hc3, hz0]
            · exact below_cell4 hbase3 (Nat.le_refl _) _ _ _ _
        · by_cases hs : (36 :: l.drop (at_ + 1)).length - nx < n.toNat + 2
          · have HS := Lib.hid (bulkS_short HH.out hp hn hs)
            rw [HLEN.out] at hs
            clear hp
            have a0 : 0 ≤ n := by omega
            have a1 : n ≤ 65536 := by omega
            have a2 : (l.length : Int) - ((at_ : Int) + (nx : Int)) < n + 2 := by omega
            clear hn hs
            go_wp2
            refine bodyPost_ret (v := headV at_ (bulkS (l.drop at_))) ?_ rfl ⟨rfl, ?_⟩
            · rw [HD.out, HS.out]
              simp [results, Try.results28, go_sem, fndV, headV, hc1, hz0]
            · repeat (first | exact below_cell4 hbase (Nat.le_refl _) _ _ _ _ | (refine Below.drew ?_) | (refine Below.alloc ?_ (by simp; omega) _))
          · have HS := Lib.hid (bulkS_whole HH.out hp hn hs)
            rw [HLEN.out] at hs
            clear hp
            obtain ⟨m, rfl⟩ : ∃ m : Nat, n = (m : Int) := ⟨n.toNat, by omega⟩
            simp only [Int.toNat_natCast] at hs HS
            have a1 : m ≤ 65536 := by omega
            have a2 : (m : Int) + 2 ≤ (l.length : Int) - ((at_ : Int) + (nx : Int)) := by omega
            have a3 : at_ + nx + m + 2 ≤ l.length := by omega
            clear hn hs
            have hcv := fun ob : Obj => conv_part w b o (o + (at_ + nx)) m (cap - (at_ + nx)) l ((l.drop (at_ + nx)).take m) HC.out (at_ + nx) rfl rfl (by omega) (w1.alloc ob) (fun p hp => by rw [World.cell?_alloc_lt w1 ob p (by rw [hp]; omega)]; exact hbase.cell (by rw [hp]; exact hb))
            go_wp2
            refine bodyPost_ret (v := headV at_ (bulkS (l.drop at_))) ?_ rfl ⟨rfl, ?_⟩
            · rw [HD.out, HS.out, ← HD.out, List.drop_drop]
              simp [results, Try.results28, go_sem, fndV, headV, hc1, hz0]
              try omega
            · repeat (first | exact below_cell4 hbase (Nat.le_refl _) _ _ _ _ | (refine Below.drew ?_) | (refine Below.alloc ?_ (by simp; omega) _))

theorem rbulk_any (b o cap at_ : Nat) (l : List UInt8) (w : World) (hl : l.length ≤ cap) (hcap : cap ≤ 9223372036854775807) (hat : at_ ≤ l.length) (hb : b < w.heap.size) (hc : BytesAt w b o l) :
    Calls Try.prog 28 #[.slice (some ⟨b, o, none⟩) l.length cap, .int .i64 at_] w fun e w' => e = .returned (headV at_ (bulkS (l.drop at_))) ∧ Below w.heap.size w w' := by
  rcases Nat.lt_or_ge at_ l.length with h | h
  · by_cases h36 : l.getD at_ 0 = 36
    · exact rbulk_dollar b o cap at_ l w hl hcap h h36 hb hc
    · exact rbulk_other b o cap at_ l w h h36 hb hc
  · obtain rfl : at_ = l.length := by omega
    rw [List.drop_length]
    exact rbulk_end b o cap l w

end Go.Proofs.Ytkaododohnncnaa
