/-
  The walks of the document's reader of replies: digits, count, integer. Conditions: as typed. The walks of the document's reader of replies: count, integer. Conditions: as typed. The walk of the document's reader of replies: text. Conditions: no fault as yet, a byte behind.
-/
import Derived.Test.YtppbcdollomebaaDoorRdA
namespace Go.Proofs.YtppbcdollomebaaDoor
open Go.RowKit

/-- A number of digits without a zero ahead, up to one: its value, how many digits, whether the bytes ended. -/
def digL (most : Nat) : Nat → Bool → List UInt8 → Nat × Nat × Bool
  | n, _, [] => (n, 0, true)
  | n, first, c :: r =>
    if 48 ≤ c.toNat ∧ c.toNat ≤ 57 ∧ (first = true ∨ n ≠ 0) ∧ n * 10 + (c.toNat - 48) ≤ most then
      ((digL most (n * 10 + (c.toNat - 48)) false r).1, (digL most (n * 10 + (c.toNat - 48)) false r).2.1 + 1, (digL most (n * 10 + (c.toNat - 48)) false r).2.2)
    else (n, 0, false)

/-- What the document's digits tell, and where they stop, with which fault. -/
def digS (bs : List UInt8) (most : Nat) (s : Nat × Nat) : Nat × (Nat × Nat) :=
  if s.2 = 0 then
    ((digL most 0 true (bs.drop s.1)).1, (s.1 + (digL most 0 true (bs.drop s.1)).2.1, if (digL most 0 true (bs.drop s.1)).2.2 then 31 else if (digL most 0 true (bs.drop s.1)).2.1 = 0 then 30 else 0))
  else (0, s)

def placeAt (w : World) (R : Nat) : Nat := match w.cell? ⟨R, 1, none⟩ with | some (.int _ i) => i.toNat | _ => 0
theorem placeAt_eq {w : World} {R i : Nat} (h : w.cell? ⟨R, 1, none⟩ = some (.int .i64 i)) : placeAt w R = i := by
  unfold placeAt; rw [h]; exact Int.toNat_natCast i

theorem placeAt_num {w : World} {R : Nat} {z : Int} (h : w.cell? ⟨R, 1, none⟩ = some (.int .i64 z)) : placeAt w R = z.toNat := by
  unfold placeAt; rw [h]

theorem drop_more (bs : List UInt8) (i : Nat) (h : ¬ bs.length ≤ i) : bs.drop i = bs.getD i 0 :: bs.drop (i + 1) := by
  rw [List.drop_eq_getElem_cons (by omega), List.getD_eq_getElem?_getD, List.getElem?_eq_getElem (by omega)]; rfl

/-- So far k digits of value n. -/
def DigK (bs : List UInt8) (most i k n : Nat) : Prop :=
  digL most 0 true (bs.drop i) = ((digL most n (decide (k = 0)) (bs.drop (i + k))).1, (digL most n (decide (k = 0)) (bs.drop (i + k))).2.1 + k, (digL most n (decide (k = 0)) (bs.drop (i + k))).2.2)

theorem DigK.start (bs : List UInt8) (most i : Nat) : DigK bs most i 0 0 := by unfold DigK; simp
theorem DigK.short {bs : List UInt8} {most i k n : Nat} (h : DigK bs most i k n) (hl : bs.length ≤ i + k) : digS bs most (i, 0) = (n, (i + k, 31)) := by
  unfold DigK at h
  rw [List.drop_eq_nil_of_le hl] at h
  unfold digS
  simp only [digL, Nat.zero_add] at h
  simp [h]
theorem DigK.stop {bs : List UInt8} {most i k n : Nat} (h : DigK bs most i k n) (hl : ¬ bs.length ≤ i + k) (c : Nat) (hc : (bs.getD (i + k) 0).toNat = c)
    (hb : ¬ (48 ≤ c ∧ c ≤ 57 ∧ (k = 0 ∨ n ≠ 0) ∧ n * 10 + (c - 48) ≤ most)) : digS bs most (i, 0) = (n, (i + k, if k = 0 then 30 else 0)) := by
  unfold DigK at h
  rw [drop_more bs (i + k) hl] at h
  simp only [digL] at h
  rw [hc, if_neg (by simpa using hb)] at h
  simp only [Nat.zero_add] at h
  unfold digS
  simp [h]
theorem DigK.more {bs : List UInt8} {most i k n : Nat} (h : DigK bs most i k n) (hl : ¬ bs.length ≤ i + k) (c : Nat) (hc : (bs.getD (i + k) 0).toNat = c)
    (hb : 48 ≤ c ∧ c ≤ 57 ∧ (k = 0 ∨ n ≠ 0) ∧ n * 10 + (c - 48) ≤ most) : DigK bs most i (k + 1) (n * 10 + (c - 48)) := by
  unfold DigK at h ⊢
  rw [drop_more bs (i + k) hl] at h
  simp only [digL] at h
  rw [hc, if_pos (by simpa using hb)] at h
  rw [h, show decide (k + 1 = 0) = false from by simp, Nat.add_assoc i k 1]
  simp only [Nat.add_assoc, Nat.add_comm 1 k]

set_option maxRecDepth 100000 in
set_option maxHeartbeats 8000000 in
theorem ddigits_ok (R : Nat) (A : Option Addr) (b o cap : Nat) (bs : List UInt8) (i e most : Nat) (hm9 : 9 ≤ most) (hmM : most ≤ 9223372036854775808) (w : World) (h : RdAt w R A b o cap bs i e) :
    Calls Tryd.prog 58 #[.pointer (some ⟨R, 0, none⟩), .int .u64 most] w fun en w' => en = .returned (.int .u64 (digS bs most (i, e)).1) ∧ Went w R A b o cap bs (digS bs most (i, e)).2 w' := by
  have HW := Lib.hid h.went
  have hle := h.le
  have hbig := h.big
  have c1 := h.c1
  have c2 := h.c2
  clear h
  by_cases he : e = 0
  · subst he
    have HS0 := Lib.hid (DigK.start bs most i)
    go_enter Tryd.func58, Tryd.ntmps58
    go_wp2
    go_loopw [5, 7, 8] (fun nv _ _ wr => ∃ k n : Nat, nv = .int .u64 n ∧ n ≤ most ∧ (k = 0 → n = 0) ∧ i + k ≤ bs.length ∧ Went w R A b o cap bs (i + k, 0) wr ∧ Hid (DigK bs most i k n)) (fun _ _ _ wr => bs.length - placeAt wr R)
    case atStart => exact ⟨0, 0, rfl, by omega, fun _ => rfl, by omega, HW.out, HS0.out⟩
    case round =>
      obtain ⟨k, n, rfl, hn, hk0, hik, hw, HK⟩ := hrel
      have d1 := hw.rd.c1
      have d2 := hw.rd.c2
      have g1 := hw.rd.f1
      have HWR := Lib.hid hw
      have HB := Lib.hid (dbyte_ok R A b o cap bs (i + k) 0 wr hw.rd)
      clear hw c1 c2 HS0
      by_cases hl : bs.length ≤ i + k
      · have HS := Lib.hid (HK.out.short hl)
        rw [show byteS bs (i + k, 0) = (0, (i + k, 31)) from by unfold byteS; simp [hl]] at HB
        clear hl
        rcases Nat.eq_zero_or_pos k with rfl | hk
        · obtain rfl := hk0 rfl
          go_wp2_with fail
          refine HB.out.mono ?_
          rintro en w1 ⟨rfl, hw1⟩
          have HW1 := Lib.hid (HWR.out.trans hw1)
          have e1 := hw1.rd.c1
          have e2 := hw1.rd.c2
          have j1 := hw1.rd.f1
          clear hw1
          go_wp2_with fail
          refine (dfail_ok R A b o cap bs (i + 0) 31 _ HW1.out.rd).mono ?_
          rintro en w2 ⟨rfl, hw2⟩
          rw [show failS bs (i + 0, 31) = (i + 0, 31) from by unfold failS; simp] at hw2
          have HW2 := Lib.hid (HW1.out.trans hw2)
          clear hw2
          go_wp2
          go_ret
          rw [HS.out]
          exact ⟨rfl, HW2.out⟩
        · go_wp2_with fail
          refine HB.out.mono ?_
          rintro en w1 ⟨rfl, hw1⟩
          have HW1 := Lib.hid (HWR.out.trans hw1)
          have e1 := hw1.rd.c1
          have e2 := hw1.rd.c2
          have j1 := hw1.rd.f1
          clear hw1
          go_wp2
          go_ret
          rw [HS.out]
          exact ⟨rfl, HW1.out⟩
      · obtain ⟨c, hc⟩ : ∃ c, (bs.getD (i + k) 0).toNat = c := ⟨_, rfl⟩
        have hc256 : c < 256 := by rw [← hc]; exact UInt8.toNat_lt _
        rw [show byteS bs (i + k, 0) = (c, (i + k, 0)) from by unfold byteS; simp only [hl, if_true, if_false, hc]] at HB
        by_cases hb : 48 ≤ c ∧ c ≤ 57 ∧ (k = 0 ∨ n ≠ 0) ∧ n * 10 + (c - 48) ≤ most
        · have HM := Lib.hid (HK.out.more hl c hc hb)
          obtain ⟨hb1, hb2, hb3, hb4⟩ := hb
          have ht : (n : Int) ≤ ((most : Int) - ((c : Int) - 48)) / 10 := by omega
          have ht2 : ¬ ((c : Int) - 48 > (most : Int)) := by omega
          clear hc
          rcases Nat.eq_zero_or_pos k with rfl | hk
          · obtain rfl := hk0 rfl
            go_wp2_with fail
            refine HB.out.mono ?_
            rintro en w1 ⟨rfl, hw1⟩
            have HW1 := Lib.hid (HWR.out.trans hw1)
            have e1 := hw1.rd.c1
            have e2 := hw1.rd.c2
            have j1 := hw1.rd.f1
            clear hw1
            have HP := Lib.hid (HW1.out.place (i + (0 + 1)) (by omega))
            rw [show ((i + (0 + 1) : Nat) : Int) = (i : Int) + 1 from by omega] at HP
            have q1 := HP.out.rd.c1
            rw [show ((i + (0 + 1) : Nat) : Int) = (i : Int) + 1 from by omega] at q1
            have hp1 := Lib.hid (placeAt_num q1)
            clear q1
            go_wp2
            go_roundw
            case rel => exact ⟨0 + 1, 0 * 10 + (c - 48), by go_num, by omega, fun q => by omega, by omega, HP.out, HM.out⟩
            case measure =>
              rw [placeAt_eq d1, hp1.out]
              omega
          · have hn0 : ((n : Int) == 0) = false := by simp; omega
            go_wp2_with fail
            refine HB.out.mono ?_
            rintro en w1 ⟨rfl, hw1⟩
            have HW1 := Lib.hid (HWR.out.trans hw1)
            have e1 := hw1.rd.c1
            have e2 := hw1.rd.c2
            have j1 := hw1.rd.f1
            clear hw1
            have HP := Lib.hid (HW1.out.place (i + (k + 1)) (by omega))
            rw [show ((i + (k + 1) : Nat) : Int) = (i : Int) + (k : Int) + 1 from by omega] at HP
            have q1 := HP.out.rd.c1
            rw [show ((i + (k + 1) : Nat) : Int) = (i : Int) + (k : Int) + 1 from by omega] at q1
            have hp1 := Lib.hid (placeAt_num q1)
            clear q1
            go_wp2
            go_roundw
            case rel => exact ⟨k + 1, n * 10 + (c - 48), by go_num, by omega, fun q => by omega, by omega, HP.out, HM.out⟩
            case measure =>
              rw [placeAt_eq d1, hp1.out]
              omega
        · have HS := Lib.hid (HK.out.stop hl c hc hb)
          clear hc
          by_cases hlow : c < 48
          · clear hb
            rcases Nat.eq_zero_or_pos k with rfl | hk
            · obtain rfl := hk0 rfl
              rw [if_pos rfl] at HS
              go_wp2_with fail
              refine HB.out.mono ?_
              rintro en w1 ⟨rfl, hw1⟩
              have HW1 := Lib.hid (HWR.out.trans hw1)
              have e1 := hw1.rd.c1
              have e2 := hw1.rd.c2
              have j1 := hw1.rd.f1
              clear hw1
              go_wp2_with fail
              refine (dfail_ok R A b o cap bs (i + 0) 0 _ HW1.out.rd).mono ?_
              rintro en w2 ⟨rfl, hw2⟩
              rw [show failS bs (i + 0, 0) = (i + 0, 30) from by unfold failS; simp only [if_true]; rw [if_neg hl]] at hw2
              have HW2 := Lib.hid (HW1.out.trans hw2)
              clear hw2
              go_wp2
              go_ret
              rw [HS.out]
              exact ⟨rfl, HW2.out⟩
            · rw [if_neg (by omega)] at HS
              go_wp2_with fail
              refine HB.out.mono ?_
              rintro en w1 ⟨rfl, hw1⟩
              have HW1 := Lib.hid (HWR.out.trans hw1)
              have e1 := hw1.rd.c1
              have e2 := hw1.rd.c2
              have j1 := hw1.rd.f1
              clear hw1
              go_wp2
              go_ret
              rw [HS.out]
              exact ⟨rfl, HW1.out⟩
          by_cases hhigh : 57 < c
          · clear hb
            rcases Nat.eq_zero_or_pos k with rfl | hk
            · obtain rfl := hk0 rfl
              rw [if_pos rfl] at HS
              go_wp2_with fail
              refine HB.out.mono ?_
              rintro en w1 ⟨rfl, hw1⟩
              have HW1 := Lib.hid (HWR.out.trans hw1)
              have e1 := hw1.rd.c1
              have e2 := hw1.rd.c2
              have j1 := hw1.rd.f1
              clear hw1
              go_wp2_with fail
              refine (dfail_ok R A b o cap bs (i + 0) 0 _ HW1.out.rd).mono ?_
              rintro en w2 ⟨rfl, hw2⟩
              rw [show failS bs (i + 0, 0) = (i + 0, 30) from by unfold failS; simp only [if_true]; rw [if_neg hl]] at hw2
              have HW2 := Lib.hid (HW1.out.trans hw2)
              clear hw2
              go_wp2
              go_ret
              rw [HS.out]
              exact ⟨rfl, HW2.out⟩
            · rw [if_neg (by omega)] at HS
              go_wp2_with fail
              refine HB.out.mono ?_
              rintro en w1 ⟨rfl, hw1⟩
              have HW1 := Lib.hid (HWR.out.trans hw1)
              have e1 := hw1.rd.c1
              have e2 := hw1.rd.c2
              have j1 := hw1.rd.f1
              clear hw1
              go_wp2
              go_ret
              rw [HS.out]
              exact ⟨rfl, HW1.out⟩
          have hk : 0 < k := by
            rcases Nat.eq_zero_or_pos k with rfl | hk
            · exact absurd ⟨by omega, by omega, Or.inl rfl, by have := hk0 rfl; omega⟩ hb
            · exact hk
          rw [if_neg (by omega)] at HS
          by_cases hz : n = 0
          · subst hz
            clear hb
            go_wp2_with fail
            refine HB.out.mono ?_
            rintro en w1 ⟨rfl, hw1⟩
            have HW1 := Lib.hid (HWR.out.trans hw1)
            have e1 := hw1.rd.c1
            have e2 := hw1.rd.c2
            have j1 := hw1.rd.f1
            clear hw1
            go_wp2
            go_ret
            rw [HS.out]
            exact ⟨rfl, HW1.out⟩
          · have hn0 : ((n : Int) == 0) = false := by simp; omega
            have ht2 : ¬ ((c : Int) - 48 > (most : Int)) := by omega
            have hq : ¬ n * 10 + (c - 48) ≤ most := fun q => hb ⟨by omega, by omega, Or.inr hz, q⟩
            have ht : ((most : Int) - ((c : Int) - 48)) / 10 < (n : Int) := by omega
            clear hq
            have hb1 : 48 ≤ c := by omega
            have hb2 : c ≤ 57 := by omega
            clear hb hz hlow hhigh
            go_wp2_with fail
            refine HB.out.mono ?_
            rintro en w1 ⟨rfl, hw1⟩
            have HW1 := Lib.hid (HWR.out.trans hw1)
            have e1 := hw1.rd.c1
            have e2 := hw1.rd.c2
            have j1 := hw1.rd.f1
            clear hw1
            go_wp2
            go_ret
            rw [HS.out]
            exact ⟨rfl, HW1.out⟩
  · have HS : Hid (digS bs most (i, e) = (0, (i, e))) := by unfold Hid digS; simp [he]
    have h0 : ((e : Int) == 0) = false := by simp; omega
    have HF : Hid (failS bs (i, e) = (i, e)) := by unfold Hid failS; simp [he]
    go_enter Tryd.func58, Tryd.ntmps58
    go_wp2
    go_loopw [5, 7, 8] (fun nv _ _ wr => nv = .int .u64 0 ∧ w = wr) (fun _ _ _ wr => bs.length - placeAt wr R)
    case atStart => exact ⟨rfl, rfl⟩
    case round =>
      obtain ⟨rfl, rfl⟩ := hrel
      go_wp2_with fail
      refine (dfail_ok R A b o cap bs i e _ HW.out.rd).mono ?_
      rintro en w2 ⟨rfl, hw2⟩
      rw [HF.out] at hw2
      have HW2 := Lib.hid (HW.out.trans hw2)
      clear hw2
      go_wp2
      go_ret
      rw [HS.out]
      exact ⟨rfl, HW2.out⟩

theorem digL_le (most : Nat) (l : List UInt8) : ∀ (n : Nat) (f : Bool), n ≤ most → (digL most n f l).1 ≤ most := by
  induction l with
  | nil => intro n f h; simpa [digL] using h
  | cons c r ih =>
    intro n f h
    simp only [digL]
    split
    · rename_i hb
      exact ih _ _ hb.2.2.2
    · exact h
theorem digS_le (bs : List UInt8) (most : Nat) (s : Nat × Nat) : (digS bs most s).1 ≤ most := by
  unfold digS
  split
  · exact digL_le most _ 0 true (Nat.zero_le _)
  · exact Nat.zero_le _

/-- What the document's count tells: below 0 for nil. -/
def countS (bs : List UInt8) (most : Nat) (s : Nat × Nat) : Int × (Nat × Nat) :=
  if (byteS bs s).1 = 45 then (-1, mustS bs 49 (s.1 + 1, 0)) else (((digS bs most (byteS bs s).2).1 : Int), (digS bs most (byteS bs s).2).2)

/-- What the document's integer tells. -/
def integerS (bs : List UInt8) (s : Nat × Nat) : Int × (Nat × Nat) :=
  if (byteS bs s).1 = 45 then
    if (byteS bs (s.1 + 1, 0)).1 = 48 then (0, failS bs (s.1 + 1, 0))
    else (-((digS bs 9223372036854775808 (byteS bs (s.1 + 1, 0)).2).1 : Int), (digS bs 9223372036854775808 (byteS bs (s.1 + 1, 0)).2).2)
  else (((digS bs 9223372036854775807 (byteS bs s).2).1 : Int), (digS bs 9223372036854775807 (byteS bs s).2).2)

/-- A byte that is one stands there. -/
theorem byteS_some {bs : List UInt8} {i e c : Nat} (hc : 0 < c) (h : (byteS bs (i, e)).1 = c) : e = 0 ∧ i < bs.length ∧ (byteS bs (i, e)).2 = (i, 0) := by
  unfold byteS at h ⊢
  by_cases he : e = 0
  · subst he
    by_cases hl : bs.length ≤ i
    · simp only [hl, if_true] at h; omega
    · simp [hl]; omega
  · simp only [he, if_false] at h; omega

theorem byteS_lt (bs : List UInt8) (s : Nat × Nat) : (byteS bs s).1 < 256 := by
  unfold byteS
  split
  · split
    · show 0 < 256; omega
    · exact UInt8.toNat_lt _
  · show 0 < 256; omega

set_option maxRecDepth 100000 in
set_option maxHeartbeats 4000000 in
theorem dcount_ok (R : Nat) (A : Option Addr) (b o cap : Nat) (bs : List UInt8) (i e most : Nat) (hm9 : 9 ≤ most) (hmM : most ≤ 131072) (w : World) (h : RdAt w R A b o cap bs i e) :
    Calls Tryd.prog 59 #[.pointer (some ⟨R, 0, none⟩), .int .i64 most] w fun en w' => en = .returned (.int .i64 (countS bs most (i, e)).1) ∧ Went w R A b o cap bs (countS bs most (i, e)).2 w' := by
  have HB := Lib.hid (dbyte_ok R A b o cap bs i e w h)
  have hle := h.le
  have hbig := h.big
  clear h
  by_cases hm : (byteS bs (i, e)).1 = 45
  · obtain ⟨rfl, hlt, h2⟩ := byteS_some (by omega) hm
    have HS : Hid (countS bs most (i, 0) = (-1, mustS bs 49 (i + 1, 0))) := by unfold Hid countS; rw [if_pos hm]
    rw [hm, h2] at HB
    rw [show (((45 : Nat) : Nat) : Int) = 45 from rfl] at HB
    clear hm h2
    go_enter Tryd.func59, Tryd.ntmps59
    go_wp2_with fail
    refine HB.out.mono ?_
    rintro en w1 ⟨rfl, hw1⟩
    have e1 := hw1.rd.c1
    have j1 := hw1.rd.f1
    have hp := hw1.place (i + 1) (by omega)
    rw [show ((i + 1 : Nat) : Int) = (i : Int) + 1 from by omega] at hp
    have HP := Lib.hid hp
    have HM := Lib.hid (dmust_ok R A b o cap bs (i + 1) 0 49 (by omega) (by omega) _ hp.rd)
    rw [show (((49 : Nat) : Nat) : Int) = 49 from rfl] at HM
    clear hw1 hp
    go_wp2_with fail
    refine HM.out.mono ?_
    rintro en w2 ⟨rfl, hw2⟩
    have HW2 := Lib.hid (HP.out.trans hw2)
    clear hw2
    go_wp2
    go_ret
    rw [HS.out]
    exact ⟨rfl, HW2.out⟩
  · obtain ⟨⟨d, ⟨i1, e1⟩⟩, hs⟩ : ∃ s, byteS bs (i, e) = s := ⟨_, rfl⟩
    have hd := byteS_lt bs (i, e)
    have HS : Hid (countS bs most (i, e) = (((digS bs most (i1, e1)).1 : Int), (digS bs most (i1, e1)).2)) := by unfold Hid countS; rw [if_neg hm, hs]
    rw [hs] at HB hm hd
    have hq : ((d : Int) == 45) = false := by rw [beq_eq_false_iff_ne]; have : d ≠ 45 := hm; omega
    clear hm hs
    have hn := digS_le bs most (i1, e1)
    obtain ⟨⟨n, s2⟩, hn2⟩ : ∃ s, digS bs most (i1, e1) = s := ⟨_, rfl⟩
    rw [hn2] at HS hn
    have HD := Lib.hid (fun w1 hr => ddigits_ok R A b o cap bs i1 e1 most hm9 (by omega) w1 hr)
    rw [hn2] at HD
    clear hn2
    have hn : n ≤ most := hn
    go_enter Tryd.func59, Tryd.ntmps59
    go_wp2_with fail
    refine HB.out.mono ?_
    rintro en w1 ⟨rfl, hw1⟩
    have HW1 := Lib.hid hw1
    clear hw1
    go_wp2_with fail
    refine (HD.out _ HW1.out.rd).mono ?_
    rintro en w2 ⟨rfl, hw2⟩
    have HW2 := Lib.hid (HW1.out.trans hw2)
    clear hw2
    go_wp2
    go_ret
    rw [HS.out]
    exact ⟨rfl, HW2.out⟩

set_option maxRecDepth 100000 in
set_option maxHeartbeats 4000000 in
theorem dinteger_ok (R : Nat) (A : Option Addr) (b o cap : Nat) (bs : List UInt8) (i e : Nat) (w : World) (h : RdAt w R A b o cap bs i e) :
    Calls Tryd.prog 42 #[.pointer (some ⟨R, 0, none⟩)] w fun en w' => en = .returned (.int .i64 (integerS bs (i, e)).1) ∧ Went w R A b o cap bs (integerS bs (i, e)).2 w' := by
  have HB := Lib.hid (dbyte_ok R A b o cap bs i e w h)
  have hle := h.le
  have hbig := h.big
  clear h
  by_cases hm : (byteS bs (i, e)).1 = 45
  · obtain ⟨rfl, hlt, h2⟩ := byteS_some (by omega) hm
    obtain ⟨⟨d, ⟨i1, e1⟩⟩, hs⟩ : ∃ s, byteS bs (i + 1, 0) = s := ⟨_, rfl⟩
    have hd := byteS_lt bs (i + 1, 0)
    have HB2 := Lib.hid (fun w1 hr => dbyte_ok R A b o cap bs (i + 1) 0 w1 hr)
    by_cases h48 : (byteS bs (i + 1, 0)).1 = 48
    · obtain ⟨_, _, h3⟩ := byteS_some (by omega) h48
      have HS : Hid (integerS bs (i, 0) = (0, failS bs (i + 1, 0))) := by unfold Hid integerS; rw [if_pos hm, if_pos h48]
      rw [h48, h3] at HB2
      rw [show (((48 : Nat) : Nat) : Int) = 48 from rfl] at HB2
      rw [hm, h2] at HB
      rw [show (((45 : Nat) : Nat) : Int) = 45 from rfl] at HB
      clear hm h2 hs hd h48 h3
      go_enter Tryd.func42, Tryd.ntmps42
      go_wp2_with fail
      refine HB.out.mono ?_
      rintro en w1 ⟨rfl, hw1⟩
      have e1 := hw1.rd.c1
      have j1 := hw1.rd.f1
      have hp := hw1.place (i + 1) (by omega)
      rw [show ((i + 1 : Nat) : Int) = (i : Int) + 1 from by omega] at hp
      have HP := Lib.hid hp
      clear hw1 hp
      go_wp2_with fail
      refine (HB2.out _ HP.out.rd).mono ?_
      rintro en w2 ⟨rfl, hw2⟩
      have HW2 := Lib.hid (HP.out.trans hw2)
      clear hw2
      go_wp2_with fail
      refine (dfail_ok R A b o cap bs (i + 1) 0 _ HW2.out.rd).mono ?_
      rintro en w3 ⟨rfl, hw3⟩
      have HW3 := Lib.hid (HW2.out.trans hw3)
      clear hw3
      go_wp2
      go_ret
      rw [HS.out]
      exact ⟨rfl, HW3.out⟩
    · have HS : Hid (integerS bs (i, 0) = (-((digS bs 9223372036854775808 (i1, e1)).1 : Int), (digS bs 9223372036854775808 (i1, e1)).2)) := by unfold Hid integerS; rw [if_pos hm, if_neg h48, hs]
      rw [hs] at HB2 h48 hd
      have hq : ((d : Int) == 48) = false := by rw [beq_eq_false_iff_ne]; have : d ≠ 48 := h48; omega
      rw [hm, h2] at HB
      rw [show (((45 : Nat) : Nat) : Int) = 45 from rfl] at HB
      clear hm h2 hs h48
      have hn := digS_le bs 9223372036854775808 (i1, e1)
      obtain ⟨⟨n, s2⟩, hn2⟩ : ∃ s, digS bs 9223372036854775808 (i1, e1) = s := ⟨_, rfl⟩
      rw [hn2] at HS hn
      have HD := Lib.hid (fun w1 hr => ddigits_ok R A b o cap bs i1 e1 9223372036854775808 (by omega) (by omega) w1 hr)
      rw [hn2] at HD
      rw [show (((9223372036854775808 : Nat) : Nat) : Int) = 9223372036854775808 from rfl] at HD
      clear hn2
      have hn : n ≤ 9223372036854775808 := hn
      rcases Nat.eq_zero_or_pos n with rfl | hn0
      · go_enter Tryd.func42, Tryd.ntmps42
        go_wp2_with fail
        refine HB.out.mono ?_
        rintro en w1 ⟨rfl, hw1⟩
        have e1 := hw1.rd.c1
        have j1 := hw1.rd.f1
        have hp := hw1.place (i + 1) (by omega)
        rw [show ((i + 1 : Nat) : Int) = (i : Int) + 1 from by omega] at hp
        have HP := Lib.hid hp
        clear hw1 hp
        go_wp2_with fail
        refine (HB2.out _ HP.out.rd).mono ?_
        rintro en w2 ⟨rfl, hw2⟩
        have HW2 := Lib.hid (HP.out.trans hw2)
        clear hw2
        go_wp2_with fail
        refine (HD.out _ HW2.out.rd).mono ?_
        rintro en w3 ⟨rfl, hw3⟩
        have HW3 := Lib.hid (HW2.out.trans hw3)
        clear hw3
        go_wp2
        go_ret
        rw [HS.out]
        exact ⟨ret_one (by show _ = -((0 : Nat) : Int); simp only [IntKind.wrap_u64]; simp only [wrap64]; omega), HW3.out⟩
      · go_enter Tryd.func42, Tryd.ntmps42
        go_wp2_with fail
        refine HB.out.mono ?_
        rintro en w1 ⟨rfl, hw1⟩
        have e1 := hw1.rd.c1
        have j1 := hw1.rd.f1
        have hp := hw1.place (i + 1) (by omega)
        rw [show ((i + 1 : Nat) : Int) = (i : Int) + 1 from by omega] at hp
        have HP := Lib.hid hp
        clear hw1 hp
        go_wp2_with fail
        refine (HB2.out _ HP.out.rd).mono ?_
        rintro en w2 ⟨rfl, hw2⟩
        have HW2 := Lib.hid (HP.out.trans hw2)
        clear hw2
        go_wp2_with fail
        refine (HD.out _ HW2.out.rd).mono ?_
        rintro en w3 ⟨rfl, hw3⟩
        have HW3 := Lib.hid (HW2.out.trans hw3)
        clear hw3
        go_wp2
        go_ret
        rw [HS.out]
        exact ⟨ret_one (by show _ = -(n : Int); omega), HW3.out⟩
  · obtain ⟨⟨d, ⟨i1, e1⟩⟩, hs⟩ : ∃ s, byteS bs (i, e) = s := ⟨_, rfl⟩
    have hd := byteS_lt bs (i, e)
    have HS : Hid (integerS bs (i, e) = (((digS bs 9223372036854775807 (i1, e1)).1 : Int), (digS bs 9223372036854775807 (i1, e1)).2)) := by unfold Hid integerS; rw [if_neg hm, hs]
    rw [hs] at HB hm hd
    have hq : ((d : Int) != 45) = true := by rw [bne_iff_ne]; have : d ≠ 45 := hm; omega
    clear hm hs
    have hn := digS_le bs 9223372036854775807 (i1, e1)
    obtain ⟨⟨n, s2⟩, hn2⟩ : ∃ s, digS bs 9223372036854775807 (i1, e1) = s := ⟨_, rfl⟩
    rw [hn2] at HS hn
    have HD := Lib.hid (fun w1 hr => ddigits_ok R A b o cap bs i1 e1 9223372036854775807 (by omega) (by omega) w1 hr)
    rw [hn2] at HD
    rw [show (((9223372036854775807 : Nat) : Nat) : Int) = 9223372036854775807 from rfl] at HD
    clear hn2
    have hn : n ≤ 9223372036854775807 := hn
    go_enter Tryd.func42, Tryd.ntmps42
    go_wp2_with fail
    refine HB.out.mono ?_
    rintro en w1 ⟨rfl, hw1⟩
    have HW1 := Lib.hid hw1
    clear hw1
    go_wp2_with fail
    refine (HD.out _ HW1.out.rd).mono ?_
    rintro en w2 ⟨rfl, hw2⟩
    have HW2 := Lib.hid (HW1.out.trans hw2)
    clear hw2
    go_wp2
    go_ret
    rw [HS.out]
    exact ⟨rfl, HW2.out⟩

/-- How many bytes a line's text has, and its fault: 0 where its end begins there. -/
def scanL : Nat → List UInt8 → Nat × Nat
  | k, [] => (k, 31)
  | k, c :: r => if c.toNat = 13 then (k, 0) else if c.toNat = 10 ∨ k = 65536 then (k, 30) else scanL (k + 1) r

/-- Where the document's text stops. -/
def textS (bs : List UInt8) (i : Nat) : Nat × Nat :=
  if (scanL 0 (bs.drop i)).2 = 0 then endS bs (i + (scanL 0 (bs.drop i)).1, 0) else (i + (scanL 0 (bs.drop i)).1, (scanL 0 (bs.drop i)).2)
def textB (bs : List UInt8) (i : Nat) : List UInt8 := (bs.drop i).take (scanL 0 (bs.drop i)).1

theorem scan_nil {bs : List UInt8} {i k : Nat} (h : scanL 0 (bs.drop i) = scanL k (bs.drop (i + k))) (hl : bs.length ≤ i + k) : scanL 0 (bs.drop i) = (k, 31) := by
  rw [h, List.drop_eq_nil_of_le hl]; rfl
theorem scan_cons {bs : List UInt8} {i k : Nat} (h : scanL 0 (bs.drop i) = scanL k (bs.drop (i + k))) (hl : ¬ bs.length ≤ i + k) (c : Nat) (hc : (bs.getD (i + k) 0).toNat = c) :
    scanL 0 (bs.drop i) = if c = 13 then (k, 0) else if c = 10 ∨ k = 65536 then (k, 30) else scanL (k + 1) (bs.drop (i + (k + 1))) := by
  rw [h, drop_more bs (i + k) hl]
  simp only [scanL]
  rw [hc, Nat.add_assoc i k 1]

theorem BytesAt.mid {w : World} {b o : Nat} {l : List UInt8} (h : BytesAt w b o l) (i k : Nat) : BytesAt w b (o + i) ((l.drop i).take k) := (h.cut i).take k

theorem conv_mid (w : World) (b o cap : Nat) (bs : List UInt8) (i J : Nat) (h : BytesAt w b o bs) (hi : i ≤ J) (hJ : J ≤ bs.length) (hc : bs.length ≤ cap) :
    (convert 26 9 (.slice (if cap = i then some ⟨b, o, none⟩ else some ⟨b, o + i, none⟩) (J - i) (cap - i))).run Tryd.prog w = .ok (.string ⟨((bs.drop i).take (J - i)).toArray⟩) w := by
  have hl : ((bs.drop i).take (J - i)).length = J - i := by rw [List.length_take, List.length_drop]; omega
  split
  · have e : (bs.drop i).take (J - i) = [] := by rw [show J - i = 0 from by omega, List.take_zero]
    have := conv_bytes w b o (cap - i) ((bs.drop i).take (J - i)) (by rw [e]; exact bytes_nil _ _ _)
    rwa [hl] at this
  · have := conv_bytes w b (o + i) (cap - i) ((bs.drop i).take (J - i)) (h.mid i (J - i))
    rwa [hl] at this

set_option maxRecDepth 100000 in
set_option maxHeartbeats 4000000 in
theorem dtext_ok (R : Nat) (A : Option Addr) (b o cap : Nat) (bs : List UInt8) (i : Nat) (hi : 0 < i) (w : World) (h : RdAt w R A b o cap bs i 0) :
    Calls Tryd.prog 41 #[.pointer (some ⟨R, 0, none⟩)] w fun en w' => (∃ T : ByteArray, en = .returned (.string T) ∧ T.size ≤ 70000 ∧ ((scanL 0 (bs.drop i)).2 = 0 → T.data.toList = textB bs i)) ∧ Went w R A b o cap bs (textS bs i) w' := by
  have HW := Lib.hid h.went
  have hle := h.le
  have hbig := h.big
  have hcl := h.cl
  have hcm := h.cm
  obtain rfl := h.hA (by omega)
  have c1 := h.c1
  have HS0 : Hid (scanL 0 (bs.drop i) = scanL 0 (bs.drop (i + 0))) := rfl
  clear h
  go_enter Tryd.func41, Tryd.ntmps41
  go_wp2
  go_loopw [17] (fun _ wr => ∃ k : Nat, k ≤ 65536 ∧ i + k ≤ bs.length ∧ Went w R (some ⟨b, o, none⟩) b o cap bs (i + k, 0) wr ∧ Hid (scanL 0 (bs.drop i) = scanL k (bs.drop (i + k)))) (fun _ wr => bs.length - placeAt wr R)
  case atStart => exact ⟨0, by omega, by omega, HW.out, HS0.out⟩
  case round =>
    obtain ⟨k, hk, hik, hw, HK⟩ := hrel
    have d1 := hw.rd.c1
    have d2 := hw.rd.c2
    have g1 := hw.rd.f1
    have HWR := Lib.hid hw
    have HB := Lib.hid (fun w1 hr => dbyte_ok R (some ⟨b, o, none⟩) b o cap bs (i + k) 0 w1 hr)
    obtain ⟨J, hJ⟩ : ∃ J, i + k = J := ⟨_, rfl⟩
    have HL : Hid (∀ L : List UInt8, ⟨((bs.drop i).take (J - i)).toArray⟩ = (⟨L.toArray⟩ : ByteArray) → True) := fun _ _ => trivial
    have HT : Hid ((⟨((bs.drop i).take (J - i)).toArray⟩ : ByteArray).size ≤ 70000 ∧ (⟨((bs.drop i).take (J - i)).toArray⟩ : ByteArray).data.toList = (bs.drop i).take k) := by
      refine ⟨?_, by rw [show J - i = k from by omega]⟩
      show ((bs.drop i).take (J - i)).toArray.size ≤ 70000
      rw [List.size_toArray, List.length_take]; omega
    clear hw c1 HS0 HL
    by_cases hl : bs.length ≤ i + k
    · have HS : Hid (textS bs i = (J, 31) ∧ scanL 0 (bs.drop i) = (k, 31)) := by unfold Hid textS; rw [scan_nil HK.out hl, ← hJ]; exact ⟨rfl, rfl⟩
      rw [show byteS bs (i + k, 0) = (0, (i + k, 31)) from by unfold byteS; simp [hl]] at HB
      have HE := Lib.hid (fun w1 hr => dend_ok R (some ⟨b, o, none⟩) b o cap bs (i + k) 31 w1 hr)
      rw [show endS bs (i + k, 31) = (i + k, 31) from by simp [endS, mustS]] at HE
      rw [hJ] at HE HB HWR d1 hik hl
      have hij : i ≤ J := by omega
      go_wp2_with fail
      refine (HB.out _ HWR.out.rd).mono ?_
      rintro en w1 ⟨rfl, hw1⟩
      have HW1 := Lib.hid (HWR.out.trans hw1)
      have e0 := hw1.rd.c0
      have e1 := hw1.rd.c1
      have e2 := hw1.rd.c2
      have hcv := conv_mid w1 b o cap bs i J hw1.rd.at_ hij hik hcl
      have hcv2 := conv_mid w1.drew b o cap bs i J hw1.drew.rd.at_ hij hik hcl
      clear hw1
      by_cases hci : cap = i
      · rw [if_pos hci, show cap - i = 0 from by omega] at hcv hcv2
        go_wp2
        go_region
        all_goals
          go_wp2_with fail
          first
            | (refine (HE.out _ HW1.out.drew.rd).mono ?_; rintro en w2 ⟨rfl, hw2⟩; have HW2 := Lib.hid (HW1.out.drew.trans hw2))
            | (refine (HE.out _ HW1.out.rd).mono ?_; rintro en w2 ⟨rfl, hw2⟩; have HW2 := Lib.hid (HW1.out.trans hw2))
          clear hw2
          go_wp2
          go_ret
          refine ⟨⟨_, rfl, HT.out.1, fun q => ?_⟩, ?_⟩
          · rw [HS.out.2] at q; cases q
          · rw [HS.out.1]; exact HW2.out
      · rw [if_neg hci] at hcv hcv2
        go_wp2
        go_region
        all_goals
          go_wp2_with fail
          first
            | (refine (HE.out _ HW1.out.drew.rd).mono ?_; rintro en w2 ⟨rfl, hw2⟩; have HW2 := Lib.hid (HW1.out.drew.trans hw2))
            | (refine (HE.out _ HW1.out.rd).mono ?_; rintro en w2 ⟨rfl, hw2⟩; have HW2 := Lib.hid (HW1.out.trans hw2))
          clear hw2
          go_wp2
          go_ret
          refine ⟨⟨_, rfl, HT.out.1, fun q => ?_⟩, ?_⟩
          · rw [HS.out.2] at q; cases q
          · rw [HS.out.1]; exact HW2.out
    · obtain ⟨c, hc⟩ : ∃ c, (bs.getD (i + k) 0).toNat = c := ⟨_, rfl⟩
      have hc256 : c < 256 := by rw [← hc]; exact UInt8.toNat_lt _
      have HC := Lib.hid (scan_cons HK.out hl c hc)
      rw [show byteS bs (i + k, 0) = (c, (i + k, 0)) from by unfold byteS; simp only [hl, if_true, if_false, hc]] at HB
      rw [hJ] at HB HWR d1 hik hl
      have hij : i ≤ J := by omega
      clear hc
      by_cases h13 : c = 13
      · subst h13
        have HS : Hid (textS bs i = endS bs (J, 0) ∧ scanL 0 (bs.drop i) = (k, 0)) := by
          have hcc := HC.out
          rw [if_pos rfl] at hcc
          unfold Hid textS; rw [hcc, ← hJ]; exact ⟨rfl, rfl⟩
        have HE := Lib.hid (fun w1 hr => dend_ok R (some ⟨b, o, none⟩) b o cap bs J 0 w1 hr)
        rw [show (((13 : Nat) : Nat) : Int) = 13 from rfl] at HB
        go_wp2_with fail
        refine (HB.out _ HWR.out.rd).mono ?_
        rintro en w1 ⟨rfl, hw1⟩
        have HW1 := Lib.hid (HWR.out.trans hw1)
        have e0 := hw1.rd.c0
        have e1 := hw1.rd.c1
        have e2 := hw1.rd.c2
        have hcv := conv_mid w1 b o cap bs i J hw1.rd.at_ hij hik hcl
        have hcv2 := conv_mid w1.drew b o cap bs i J hw1.drew.rd.at_ hij hik hcl
        rw [if_neg (by omega)] at hcv hcv2
        clear hw1
        go_wp2
        go_region
        all_goals
          go_wp2_with fail
          first
            | (refine (HE.out _ HW1.out.drew.rd).mono ?_; rintro en w2 ⟨rfl, hw2⟩; have HW2 := Lib.hid (HW1.out.drew.trans hw2))
            | (refine (HE.out _ HW1.out.rd).mono ?_; rintro en w2 ⟨rfl, hw2⟩; have HW2 := Lib.hid (HW1.out.trans hw2))
          clear hw2
          go_wp2
          go_ret
          refine ⟨⟨_, rfl, HT.out.1, fun q => ?_⟩, ?_⟩
          · rw [HT.out.2]; unfold textB; rw [HS.out.2]
          · rw [HS.out.1]; exact HW2.out
      have hq13 : ((c : Int) != 13) = true := by rw [bne_iff_ne]; omega
      by_cases hbad : c = 10 ∨ k = 65536
      · have HS : Hid (textS bs i = (J, 30) ∧ scanL 0 (bs.drop i) = (k, 30)) := by
          have hcc := HC.out
          rw [if_neg h13, if_pos hbad] at hcc
          unfold Hid textS; rw [hcc, ← hJ]; exact ⟨rfl, rfl⟩
        have HF := Lib.hid (fun w1 hr => dfail_ok R (some ⟨b, o, none⟩) b o cap bs J 0 w1 hr)
        rw [show failS bs (J, 0) = (J, 30) from by unfold failS; simp only [if_true]; rw [if_neg hl]] at HF
        by_cases h10 : c = 10
        · subst h10
          rw [show (((10 : Nat) : Nat) : Int) = 10 from rfl] at HB
          clear hq13 hbad h13
          go_wp2_with fail
          refine (HB.out _ HWR.out.rd).mono ?_
          rintro en w1 ⟨rfl, hw1⟩
          have HW1 := Lib.hid (HWR.out.trans hw1)
          have e1 := hw1.rd.c1
          have e2 := hw1.rd.c2
          clear hw1
          go_wp2_with fail
          refine (HB.out _ HW1.out.rd).mono ?_
          rintro en w2 ⟨rfl, hw2⟩
          have HW2 := Lib.hid (HW1.out.trans hw2)
          have e1 := hw2.rd.c1
          clear hw2
          go_wp2_with fail
          refine (HF.out _ HW2.out.rd).mono ?_
          rintro en w3 ⟨rfl, hw3⟩
          have HW3 := Lib.hid (HW2.out.trans hw3)
          clear hw3
          go_wp2
          go_ret
          refine ⟨⟨_, rfl, by decide, fun q => ?_⟩, ?_⟩
          · rw [HS.out.2] at q; cases q
          · rw [HS.out.1]; exact HW3.out
        · have hk6 : J - i = 65536 := by omega
          have hJi : (J : Int) - (i : Int) = 65536 := by omega
          have hq10 : ((c : Int) == 10) = false := by rw [beq_eq_false_iff_ne]; omega
          clear hbad h13 h10
          go_wp2_with fail
          refine (HB.out _ HWR.out.rd).mono ?_
          rintro en w1 ⟨rfl, hw1⟩
          have HW1 := Lib.hid (HWR.out.trans hw1)
          have e1 := hw1.rd.c1
          have e2 := hw1.rd.c2
          clear hw1
          go_wp2_with fail
          refine (HB.out _ HW1.out.rd).mono ?_
          rintro en w2 ⟨rfl, hw2⟩
          have HW2 := Lib.hid (HW1.out.trans hw2)
          have e1 := hw2.rd.c1
          clear hw2
          go_wp2_with fail
          refine (HF.out _ HW2.out.rd).mono ?_
          rintro en w3 ⟨rfl, hw3⟩
          have HW3 := Lib.hid (HW2.out.trans hw3)
          clear hw3
          go_wp2
          go_ret
          refine ⟨⟨_, rfl, by decide, fun q => ?_⟩, ?_⟩
          · rw [HS.out.2] at q; cases q
          · rw [HS.out.1]; exact HW3.out
      · have HN : Hid (scanL 0 (bs.drop i) = scanL (k + 1) (bs.drop (i + (k + 1)))) := by
          have hcc := HC.out
          rw [if_neg h13, if_neg hbad] at hcc
          exact hcc
        have hq10 : ((c : Int) == 10) = false := by rw [beq_eq_false_iff_ne]; omega
        have hqk : ((J : Int) - (i : Int) == 65536) = false := by rw [beq_eq_false_iff_ne]; omega
        have hk6 : k < 65536 := by omega
        clear hbad h13
        go_wp2_with fail
        refine (HB.out _ HWR.out.rd).mono ?_
        rintro en w1 ⟨rfl, hw1⟩
        have HW1 := Lib.hid (HWR.out.trans hw1)
        have e1 := hw1.rd.c1
        have e2 := hw1.rd.c2
        clear hw1
        go_wp2_with fail
        refine (HB.out _ HW1.out.rd).mono ?_
        rintro en w2 ⟨rfl, hw2⟩
        have HW2 := Lib.hid (HW1.out.trans hw2)
        have e1 := hw2.rd.c1
        have j1 := hw2.rd.f1
        clear hw2
        have HP := HW2.out.place (J + 1) (by omega)
        rw [show ((J + 1 : Nat) : Int) = (J : Int) + 1 from by omega] at HP
        have HP := Lib.hid HP
        have hpl := Lib.hid (placeAt_eq (i := J + 1) (by have := HP.out.rd.c1; exact this))
        go_wp2
        go_roundw
        case rel => exact ⟨k + 1, by omega, by omega, by rw [show i + (k + 1) = J + 1 from by omega]; exact HP.out, HN.out⟩
        case measure =>
          rw [placeAt_eq d1, hpl.out]
          omega

end Go.Proofs.YtppbcdollomebaaDoor
