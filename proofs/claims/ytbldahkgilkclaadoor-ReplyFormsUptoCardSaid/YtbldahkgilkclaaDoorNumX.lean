/-
  The walks of Text and of the document's own Text. Conditions: the argument is a number of 64 bits; for Text, that the table of powers of ten holds what its own text lays.
-/
import Derived.Test.YtbldahkgilkclaaDoorNumM
import Derived.Test.YtbldahkgilkclaaDoorShelf
import Derived.Test.YtbldahkgilkclaaDoorRet
import Derived.Lib.ItoaLen
import Derived.Test.YtbldahkgilkclaaDoorConv
namespace Go.Proofs.YtbldahkgilkclaaDoor
open Go.RowKit

/-- The digits that are still to come. -/
def restD (m : Int) : List UInt8 := if m = 0 then [] else Lib.decDigits m.natAbs

theorem restD_step (m : Int) (h : m ≠ 0) : restD m = restD (m.tdiv 10) ++ [UInt8.ofNat (48 + (m.tmod 10).natAbs)] := by
  have e1 : (m.tdiv 10).natAbs = m.natAbs / 10 := by rw [Int.natAbs_tdiv]; rfl
  have e2 : (m.tmod 10).natAbs = m.natAbs % 10 := by rw [Int.natAbs_tmod]; rfl
  unfold restD
  rw [if_neg h, e2]
  by_cases hs : m.natAbs < 10
  · have hz : m.tdiv 10 = 0 := by omega
    rw [if_pos hz, Lib.decDigits_one hs, List.nil_append, Nat.mod_eq_of_lt hs]
  · rw [if_neg (by omega), e1]
    conv => lhs; rw [Lib.decDigits, dif_neg hs]

theorem add_one (x : UInt8) (L : List UInt8) : Value.string ({ data := #[x] } ++ { data := L.toArray }) = .string ⟨(x :: L).toArray⟩ :=
  congrArg Value.string (ByteArray.mk_append_mk [x] L)

set_option maxRecDepth 100000 in
set_option maxHeartbeats 1000000 in
theorem refText_any (n : Int) (w : World) (h0 : -9223372036854775808 ≤ n) (h1 : n ≤ 9223372036854775807) :
    Calls Tryd.prog 25 #[.int .i64 n] w fun e w' => e = .returned (.string ⟨(Lib.itoa n).toArray⟩) ∧ Below w.heap.size w w' := by
  by_cases hn : n = 0
  · subst hn
    have HE : Hid (Lib.itoa 0 = [48]) := by unfold Hid Lib.itoa; rw [if_neg (by decide)]; exact decDigits_zero
    go_enter Tryd.func25, Tryd.ntmps25
    go_wp2
    go_ret
    exact ⟨ret_str HE.out.symm, Below.refl _ _⟩
  have hb0 : (n == 0) = false := by simpa using hn
  have hst : restD n = Lib.decDigits n.natAbs := by unfold restD; rw [if_neg hn]
  have HST := Lib.hid hst
  clear hst
  go_enter Tryd.func25, Tryd.ntmps25
  go_wp2
  go_loopw [3, 4, 5] (fun s m _ wr => ∃ (L : List UInt8) (k : Int), s = .string ⟨L.toArray⟩ ∧ m = .int .i64 k ∧ -9223372036854775808 ≤ k ∧ k ≤ 9223372036854775807 ∧ Hid (restD k ++ L = Lib.decDigits n.natAbs) ∧ Below w.heap.size w wr) (fun _ m _ _ => (intOf m).natAbs)
  case atStart => exact ⟨[], n, rfl, rfl, h0, h1, by unfold Hid; rw [List.append_nil]; exact HST.out, Below.refl _ _⟩
  case round =>
    obtain ⟨L, k, rfl, rfl, hk0, hk1, HL, hbw⟩ := hrel
    have hL : L.length ≤ 20 := by
      have := congrArg List.length HL.out
      rw [List.length_append, Lib.decDigits_length] at this
      have := Lib.nDigits_le20 n.natAbs (by omega)
      omega
    by_cases hk : k = 0
    · subst hk
      have e := HL.out
      have HE : Hid (L = Lib.decDigits n.natAbs) := by rw [← e]; rfl
      clear e HL HST
      by_cases hneg : n < 0
      · have HI : Hid (Lib.itoa n = 45 :: L) := by unfold Hid Lib.itoa; rw [if_pos hneg, HE.out]
        go_wp2
        go_ret
        exact ⟨(congrArg Ending.returned (add_one 45 L)).trans (ret_str HI.out.symm), hbw⟩
      · have HI : Hid (Lib.itoa n = L) := by unfold Hid Lib.itoa; rw [if_neg hneg, HE.out]; congr 1; omega
        go_wp2
        go_ret
        exact ⟨ret_str HI.out.symm, hbw⟩
    · have hkb : (k != 0) = true := by simpa using hk
      have hcv := one_byte wr
      obtain ⟨t, ht⟩ : ∃ t, k.tmod 10 = t := ⟨_, rfl⟩
      obtain ⟨q, hq⟩ : ∃ q, k.tdiv 10 = q := ⟨_, rfl⟩
      have HS := Lib.hid (restD_step k hk)
      have hda := Int.mul_tdiv_add_tmod k 10
      have htb : -9 ≤ t ∧ t ≤ 9 := by
        have : (k.tmod 10).natAbs < 10 := by rw [Int.natAbs_tmod]; exact Nat.mod_lt _ (by decide)
        omega
      have hqb : q.natAbs < k.natAbs := by
        have : (k.tdiv 10).natAbs = k.natAbs / 10 := by rw [Int.natAbs_tdiv]; rfl
        omega
      obtain ⟨t0, t1⟩ := htb
      have HD := Lib.hid hda
      have HQ := Lib.hid hqb
      have HT := Lib.hid ht
      clear hda hqb
      have fin : ∀ c : Int, c = 48 + (t.natAbs : Int) → restD q ++ UInt8.ofNat c.toNat :: L = Lib.decDigits n.natAbs := by
        intro c hc
        rw [← HL.out, HS.out, hq, HT.out, hc, List.append_assoc]
        rfl
      have FIN := Lib.hid fin
      clear fin
      have q0 : -9223372036854775808 ≤ q := by have := HQ.out; omega
      have q1 : q ≤ 9223372036854775807 := by have := HQ.out; have := HD.out; omega
      by_cases hneg : k < 0 <;> by_cases htn : t < 0
      all_goals
        go_wp2
      all_goals
        go_roundw
        case rel =>
          exact ⟨_, q, add_one _ _, rfl, q0, q1, FIN.out _ (by omega), hbw.alloc hbw.size _⟩
        case measure =>
          have := HQ.out
          simp only [intOf]
          omega

/-- The table of powers of ten, as its own text lays it, below the blocks of the call. -/
def Pows (w : World) : Prop := Lib.TabIs Tryd.prog w "internal/strconv.uint64pow10" .u64 Lib.pow10Tab

theorem gPow : Tryd.prog.globalNamed "internal/strconv.uint64pow10" = some 1 := by kernel_rfl

theorem Pows.on {B : Nat} {w w' : World} (h : Pows w) (hb : Below B w w') (hB : 1 < B) : Pows w' := var?_below hb gPow hB h

theorem below_grow (w : World) (n : Nat) (os : Array Obj) : Below w.heap.size w (Sort.grow (w.drewN n) os) :=
  ⟨rfl, rfl, rfl, by simp [Sort.grow], fun k hk => Sort.heap_grow_old (w.drewN n) os hk⟩

set_option maxRecDepth 100000 in
set_option maxHeartbeats 400000 in
theorem text_any (n : Int) (w : World) (h0 : -9223372036854775808 ≤ n) (h1 : n ≤ 9223372036854775807) (hp : Pows w) :
    Calls Tryd.prog 24 #[.int .i64 n] w fun e w' => e = .returned (.string ⟨(Lib.itoa n).toArray⟩) ∧ Below w.heap.size w w' := by
  go_enter Tryd.func24, Tryd.ntmps24
  go_wp2_with (go_at_call 34; refine (Tryd.strconv_FormatInt_10 n h0 h1 _ hp).mono ?_; rintro e w' ⟨rfl, k, os, rfl⟩)
  go_ret
  exact ⟨rfl, below_grow _ _ _⟩

end Go.Proofs.YtbldahkgilkclaaDoor
