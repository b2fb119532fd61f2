/-
  The walks of the document's own answers for layer 2: find, wrong, shown, head, bulk. Conditions: the bytes lie in memory as a slice that reads as them.
-/
import Derived.Test.YtkaododohnncnaaRspK
import Derived.Test.YtkaododohnncnaaNumP
import Derived.Test.YtkaododohnncnaaConv
namespace Go.Proofs.Ytkaododohnncnaa
open Go.RowKit
set_option maxHeartbeats 1000000 in
theorem rfind_any (c : UInt8) (b o cap at_ : Nat) (l : List UInt8) (w : World) (hl : l.length ≤ 9223372036854775807) (hat : at_ ≤ l.length) (hc : BytesAt w b o l) :
    Calls Try.prog 29 #[.slice (some ⟨b, o, none⟩) l.length cap, .int .i64 at_, .int .u8 (c.toNat : Int)] w fun e w' => e = .returned (.int .i64 (findI c l at_)) ∧ w = w' := by
  obtain ⟨len, hlen⟩ : ∃ n, l.length = n := ⟨_, rfl⟩
  rw [hlen] at hl hat ⊢
  have HL := Lib.hid hlen
  have HC := Lib.hid hc
  clear hlen hc
  obtain ⟨x, hx⟩ : ∃ x : Nat, c.toNat = x := ⟨_, rfl⟩
  have HX := Lib.hid hx
  rw [hx]
  clear hx
  go_enter Try.func29, Try.ntmps29
  go_wp2
  go_loop [7] (fun i => ∃ k : Nat, at_ + k ≤ len ∧ k ≤ 65536 ∧ i = .int .i64 ((at_ + k : Nat) : Int) ∧ Hid (findF c (65536 - k) (l.drop (at_ + k)) k = findL c (l.drop at_))) (fun i => len - (intOf i).toNat)
  case atStart => exact ⟨0, by omega, by omega, by go_num, rfl⟩
  case round =>
    obtain ⟨k, hk, hk2, rfl, HF⟩ := hrel
    by_cases hlt : at_ + k < len
    · by_cases hlt2 : k < 65536
      · have hcell := HC.out (at_ + k) (by rw [HL.out]; exact hlt)
        have HS := Lib.hid (findF_step c (65536 - (k + 1)) k l (at_ + k) (by rw [HL.out]; exact hlt))
        obtain ⟨y, hy⟩ : ∃ y : UInt8, l.getD (at_ + k) 0 = y := ⟨_, rfl⟩
        rw [hy] at hcell HS
        clear hy
        by_cases hxy : y = c
        · have hb : ((y.toNat : Int) == (x : Int)) = true := by rw [hxy, HX.out]; simp
          have HR : Hid (findI c l at_ = ((at_ + k : Nat) : Int)) := by
            unfold Hid findI
            rw [← HF.out, show 65536 - k = 65536 - (k + 1) + 1 from by omega, HS.out, if_pos hxy]
          clear HF HS hxy
          go_wp2
          go_ret
          exact ⟨ret_one HR.out.symm, rfl⟩
        · have hb : ((y.toNat : Int) == (x : Int)) = false := by
            rw [beq_eq_false_iff_ne]
            intro e
            apply hxy
            apply UInt8.toNat_inj.1
            have := HX.out
            omega
          have HR : Hid (findF c (65536 - (k + 1)) (l.drop (at_ + (k + 1))) (k + 1) = findL c (l.drop at_)) := by
            unfold Hid
            rw [← HF.out, show 65536 - k = 65536 - (k + 1) + 1 from by omega, HS.out, if_neg hxy, Nat.add_assoc]
          clear HF HS hxy
          go_wp2
          go_round
          case rel => exact ⟨k + 1, by omega, by omega, by go_num, HR.out⟩
          case measure => simp [intOf]; omega
      · have HR : Hid (findI c l at_ = -1) := by
          unfold Hid findI
          rw [← HF.out, show 65536 - k = 0 from by omega]
          rfl
        clear HF
        go_wp2
        go_ret
        exact ⟨ret_one HR.out.symm, rfl⟩
    · have HR : Hid (findI c l at_ = -1) := by
        unfold Hid findI
        rw [← HF.out, show at_ + k = l.length from by have := HL.out; omega, findF_end]
      clear HF
      go_wp2
      go_ret
      exact ⟨ret_one HR.out.symm, rfl⟩

set_option maxHeartbeats 400000 in
theorem rwrong_any (f : List UInt8) (w : World) (hf : f.length ≤ 100000) :
    Calls Try.prog 27 #[.string ⟨f.toArray⟩] w fun e w' => e = .returned (fndV 2 0 (.slice none 0 0) (perrB ++ f)) ∧ Below w.heap.size w w' := by
  have hadd := perr_add f
  go_enter Try.func27, Try.ntmps27
  go_wp2
  exact bodyPost_ret (v := fndV 2 0 (.slice none 0 0) (perrB ++ f)) (by simp [results, Try.results27, go_sem, fndV]) rfl ⟨rfl, (Below.refl _ _).alloc (Nat.le_refl _) _⟩

set_option maxHeartbeats 400000 in
theorem rshown_any (c : UInt8) (w : World) :
    Calls Try.prog 38 #[.int .u8 (c.toNat : Int)] w fun e w' => e = .returned (.string ⟨(shownS c).toArray⟩) ∧ Below w.heap.size w w' := by
  have hcv := fun x : Int => (show (convert 27 9 (.slice (some ⟨w.heap.size, 0, none⟩) 1 1)).run Try.prog (w.alloc (.cells #[.int .u8 x] 5)) = .ok (.string ⟨#[UInt8.ofNat x.toNat]⟩) (w.alloc (.cells #[.int .u8 x] 5)) from one_byte w x)
  by_cases h : c.toNat < 32 ∨ 126 < c.toNat
  · have HR : Hid (shownS c = [46]) := by unfold Hid shownS; rw [if_pos h]
    rcases h with h | h
    all_goals
      obtain ⟨x, hx⟩ : ∃ x : Nat, c.toNat = x := ⟨_, rfl⟩
      rw [hx] at h ⊢
      clear hx
      go_enter Try.func38, Try.ntmps38
      go_wp2
      go_ret
      exact ⟨ret_str HR.out.symm, Below.refl _ _⟩
  · have HR : Hid (shownS c = [c]) := by unfold Hid shownS; rw [if_neg h]
    obtain ⟨x, hx⟩ : ∃ x : Nat, c.toNat = x := ⟨_, rfl⟩
    have HC : Hid (UInt8.ofNat ((x : Int)).toNat = c) := by unfold Hid; rw [← hx]; simp
    rw [hx] at h ⊢
    have h1 : 32 ≤ x := by omega
    have h2 : x ≤ 126 := by omega
    clear hx h
    go_enter Try.func38, Try.ntmps38
    go_wp2
    go_ret
    exact ⟨by rw [HR.out]; exact congrArg (fun u : UInt8 => Ending.returned (.string ⟨#[u]⟩)) HC.out, (Below.refl _ _).alloc (Nat.le_refl _) _⟩

set_option maxHeartbeats 1000000 in
theorem rhead_any (big : List UInt8) (b o cap at_ : Nat) (l : List UInt8) (w : World) (hbig : big.length ≤ 1000) (hl : l.length ≤ cap) (hcap : cap ≤ 9223372036854775807) (hat : at_ < l.length) (h13 : l.getD at_ 0 ≠ 13) (hb : b < w.heap.size) (hc : BytesAt w b o l) :
    Calls Try.prog 25 #[.slice (some ⟨b, o, none⟩) l.length cap, .int .i64 at_, .string ⟨big.toArray⟩] w fun e w' => e = .returned (headV at_ (headS big (l.drop at_))) ∧ Below w.heap.size w w' := by
  have HC := Lib.hid hc
  clear hc
  cases hf : findL 13 (l.drop at_) with
  | none =>
    have HF : Hid (findI 13 l at_ = -1) := by unfold Hid findI; rw [hf]
    have hS : headS big (l.drop at_) = if 65536 < l.length - at_ then some (.inl (perrB ++ big)) else none := by
      unfold headS; rw [hf, List.length_drop]
    have HS := Lib.hid hS
    clear hf hS
    by_cases hbg : 65536 < l.length - at_
    · have hbg' : 65536 < (l.length : Int) - (at_ : Int) := by omega
      go_enter Try.func25, Try.ntmps25
      go_wp2_with fail
      refine (rfind_any 13 b o cap at_ l _ (by omega) (by omega) (by exact fun j hj => (World.cell?_alloc_lt w _ ⟨b, o + j, none⟩ hb).trans (HC.out j hj))).mono ?_
      rintro e w' ⟨rfl, rfl⟩
      rw [HF.out]
      go_wp2_with fail
      refine (rwrong_any big _ (by omega)).mono ?_
      rintro e w2 ⟨rfl, hb2⟩
      unfold fndV
      have HS2 : Hid (headS big (l.drop at_) = some (.inl (perrB ++ big))) := by unfold Hid; rw [HS.out, if_pos hbg]
      obtain ⟨hcc, hff⟩ := bcell hb2
      have hz2 := hb2.size
      simp only [World.size_alloc] at hcc hff hz2
      go_wp2
      refine bodyPost_ret (v := headV at_ (headS big (l.drop at_))) ?_ rfl ⟨rfl, below_cell4 (((Below.refl _ _).alloc (Nat.le_refl _) _).trans (hb2.mono (by simp))) (Nat.le_refl _) _ _ _ _⟩
      rw [HS2.out]
      simp [results, Try.results25, go_sem, fndV, headV, hcc]
    · have hbg' : (l.length : Int) - (at_ : Int) ≤ 65536 := by omega
      have HS2 : Hid (headS big (l.drop at_) = none) := by unfold Hid; rw [HS.out, if_neg hbg]
      go_enter Try.func25, Try.ntmps25
      go_wp2_with fail
      refine (rfind_any 13 b o cap at_ l _ (by omega) (by omega) (by exact fun j hj => (World.cell?_alloc_lt w _ ⟨b, o + j, none⟩ hb).trans (HC.out j hj))).mono ?_
      rintro e w' ⟨rfl, rfl⟩
      rw [HF.out]
      go_wp2
      refine bodyPost_ret (v := headV at_ (headS big (l.drop at_))) ?_ rfl ⟨rfl, ?_⟩
      · rw [HS2.out]
        simp [results, Try.results25, go_sem, fndV, headV]
      · exact (Below.refl _ _).alloc (Nat.le_refl _) _
  | some k =>
    obtain ⟨k1, k2, k3⟩ := findL_le hf
    rw [List.length_drop] at k1
    have hk0 : 0 < k := by
      rcases Nat.eq_zero_or_pos k with h0 | h0
      · subst h0
        exact absurd (by simpa [List.getD_eq_getElem?_getD, List.getElem?_drop] using k3) h13
      · exact h0
    have HF : Hid (findI 13 l at_ = ((at_ + k : Nat) : Int)) := by unfold Hid findI; rw [hf]
    have hS : headS big (l.drop at_) = if l.length - at_ ≤ k + 1 then none else some (.inr (((l.drop at_).take k).drop 1, k + 2)) := by
      unfold headS; rw [hf, List.length_drop]
    have HS := Lib.hid hS
    clear hf hS k3 h13
    by_cases hend : l.length - at_ ≤ k + 1
    · have hend' : (l.length : Int) ≤ (at_ : Int) + (k : Int) + 1 := by omega
      have HS2 : Hid (headS big (l.drop at_) = none) := by unfold Hid; rw [HS.out, if_pos hend]
      go_enter Try.func25, Try.ntmps25
      go_wp2_with fail
      refine (rfind_any 13 b o cap at_ l _ (by omega) (by omega) (by exact fun j hj => (World.cell?_alloc_lt w _ ⟨b, o + j, none⟩ hb).trans (HC.out j hj))).mono ?_
      rintro e w' ⟨rfl, rfl⟩
      rw [HF.out]
      go_wp2
      refine bodyPost_ret (v := headV at_ (headS big (l.drop at_))) ?_ rfl ⟨rfl, ?_⟩
      · rw [HS2.out]
        simp [results, Try.results25, go_sem, fndV, headV]
      · exact (Below.refl _ _).alloc (Nat.le_refl _) _
    · have hend' : (at_ : Int) + (k : Int) + 1 < (l.length : Int) := by omega
      have HS2 : Hid (headS big (l.drop at_) = some (.inr (((l.drop at_).take k).drop 1, k + 2))) := by unfold Hid; rw [HS.out, if_neg hend]
      go_enter Try.func25, Try.ntmps25
      go_wp2_with fail
      refine (rfind_any 13 b o cap at_ l _ (by omega) (by omega) (by exact fun j hj => (World.cell?_alloc_lt w _ ⟨b, o + j, none⟩ hb).trans (HC.out j hj))).mono ?_
      rintro e w' ⟨rfl, rfl⟩
      rw [HF.out]
      have hcv := fun ob : Obj => conv_part w b o (o + (at_ + 1)) (at_ + k - (at_ + 1)) (cap - (at_ + 1)) l (((l.drop at_).take k).drop 1) HC.out (at_ + 1) rfl (by rw [List.drop_take, List.drop_drop]; congr 1; omega) (by omega) (w.alloc ob) (fun p hp => World.cell?_alloc_lt w ob p (by rw [hp]; exact hb))
      go_wp2
      refine bodyPost_ret (v := headV at_ (headS big (l.drop at_))) ?_ rfl ⟨rfl, ?_⟩
      · rw [HS2.out]
        simp [results, Try.results25, go_sem, fndV, headV]
        try omega
      · exact (Below.refl _ _).alloc (Nat.le_refl _) _

end Go.Proofs.Ytkaododohnncnaa
