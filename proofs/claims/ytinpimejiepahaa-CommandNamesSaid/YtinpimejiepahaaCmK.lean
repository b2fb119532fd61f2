/-
  The document's of, Look. Conditions: the row lies in memory; the name has at most 2^47 bytes.
-/
import Derived.Test.YtinpimejiepahaaCmI
namespace Go.Proofs.Ytinpimejiepahaa
open Go.RowKit

def fsS (L : List Sp) (nm : Tx) : Sp := (findN L nm).getD spZ
def fsB (L : List Sp) (nm : Tx) : Bool := (findN L nm).isSome

theorem findN_here {L : List Sp} {nm : Tx} {i : Nat} {y : Sp} (hy : L[i]? = some y) (he : y.1 = nm) (hb : ∀ j z, j < i → L[j]? = some z → ¬ z.1 = nm) : findN L nm = some y := by
  induction L generalizing i with
  | nil => simp at hy
  | cons a L ih =>
    unfold findN at ih ⊢
    rw [List.find?_cons]
    rcases i with _ | i
    · simp at hy
      subst hy
      rw [decide_eq_true he]
    · rw [List.getElem?_cons_succ] at hy
      have h0 := hb 0 a (Nat.succ_pos _) rfl
      rw [decide_eq_false h0]
      exact ih hy (fun j z hj hz => hb (j + 1) z (by omega) hz)
theorem findN_none {L : List Sp} {nm : Tx} (hb : ∀ (j : Nat) (z : Sp), L[j]? = some z → ¬ z.1 = nm) : findN L nm = none := by
  unfold findN
  rw [List.find?_eq_none]
  intro y hy
  obtain ⟨j, hj⟩ := List.mem_iff_getElem?.1 hy
  simp [hb j y hj]

set_option maxRecDepth 100000 in
set_option maxHeartbeats 8000000 in
theorem of_any {A : Option Addr} {n c : Nat} {L : List Sp} (nm : Tx) (w : World) (h : SpAt w A n c L) (hn : n ≤ 1000000) :
    Calls Try.prog 36 #[.slice A n c, .string ⟨nm.toArray⟩] w fun e w' => e = .returned (.tuple #[aggS (fsS L nm), .bool (fsB L nm)]) ∧ Below w.heap.size w w' := by
  obtain ⟨B, hB⟩ : ∃ B, w.heap.size = B := ⟨_, rfl⟩
  obtain ⟨w1, hw1⟩ : ∃ w1, w.alloc (.cells #[.string ⟨#[]⟩, .int .i64 0, .int .i64 0, .bool false, .int .i64 0, .int .i64 0, .int .i64 0] 27) = w1 := ⟨_, rfl⟩
  have b1 : Below B w w1 := by rw [← hw1, ← hB]; exact (Below.refl _ _).alloc (Nat.le_refl _) _
  have r1 : w1.rowIs B 27 7 (sF spZ) := by rw [← hw1, ← hB]; exact rows7 w _ _ _ _ _ _ _ _
  have HL := Lib.hid (h.below (show Below w.heap.size w w1 from by rw [hB]; exact b1))
  have HR := Lib.hid r1
  have HB1 := Lib.hid b1
  have HW1 := Lib.hid hw1
  have hle := h.le
  obtain ⟨S, hS⟩ : ∃ S, fsS L nm = S := ⟨_, rfl⟩
  obtain ⟨b, hb⟩ : ∃ b, fsB L nm = b := ⟨_, rfl⟩
  have HS := Lib.hid hS
  have HBB := Lib.hid hb
  rw [hB, hS, hb]
  have hr2 : w1.rowIs B 27 7 (f7 (.string ⟨#[]⟩) (.int .i64 0) (.int .i64 0) (.bool false) (.int .i64 0) (.int .i64 0) (.int .i64 0)) := r1
  obtain ⟨-, z0, z1, z2, z3, z4, z5, z6, zf⟩ := box7_of_row hr2
  have zf0 := zf 0
  have zf1 := zf 1
  have zf2 := zf 2
  have zf3 := zf 3
  have zf4 := zf 4
  have zf5 := zf 5
  have zf6 := zf 6
  clear h b1 r1 hw1 hS hb hr2 zf
  go_enter Try.func36, Try.ntmps36
  go_wp2_with fail
  rw [HW1.out]
  go_loopw [6] (fun iv wq => ∃ i : Nat, iv = .int .i64 i ∧ i ≤ n ∧ wq = w1 ∧ (∀ j z, j < i → L[j]? = some z → ¬ z.1 = nm)) (fun iv _ => n - (intOf iv).toNat)
  case atStart => exact ⟨0, rfl, Nat.zero_le _, rfl, fun j z h => absurd h (Nat.not_lt_zero _)⟩
  case round =>
    obtain ⟨i, rfl, hi, rfl, hr⟩ := hrel
    have HRR := Lib.hid hr
    clear hr
    by_cases hlt : i < n
    · obtain ⟨⟨nm2, g, ar, wr_, f, la, st⟩, hy⟩ := HL.out.get hlt
      obtain ⟨q, o, rfl, hql, hc⟩ := HL.out.at_ (by omega)
      obtain ⟨c0, c1, c2, c3, c4, c5, c6⟩ := SpAt.seven hc hy
      dsimp only at c0 c1 c2 c3 c4 c5 c6
      have hlt' : (i : Int) < (n : Int) := by omega
      have hi0 : (0 : Int) ≤ (i : Int) := by omega
      have HY := Lib.hid hy
      clear hc hy
      by_cases hq : nm2 = nm
      · have HF := Lib.hid (findN_here HY.out hq HRR.out)
        subst hq
        have hEq : (nm2 == nm2) = true := by simp
        have HE : Hid (aggS S = .agg #[.string ⟨nm2.toArray⟩, .int .i64 g, .int .i64 ar, .bool wr_, .int .i64 f, .int .i64 la, .int .i64 st] ∧ b = true) := by
          unfold Hid
          rw [← HS.out, ← HBB.out]
          unfold fsS fsB
          rw [HF.out]
          exact ⟨rfl, rfl⟩
        go_wp2
        refine bodyPost_ret (v := .tuple #[aggS S, .bool b]) (by rw [HE.out.1, HE.out.2]; simp [results, Try.results36, go_sem, z0, z1, z2, z3, z4, z5, z6]) rfl ⟨rfl, ?_⟩
        iterate 7 (refine Below.setCell ?_ (by dsimp only; omega) _)
        exact HB1.out
      · have hEq : (nm2 == nm) = false := by simpa using hq
        go_wp2
        go_roundw
        case rel =>
          refine ⟨i + 1, by go_num, hlt, by trivial, fun j z hj hz => ?_⟩
          rcases (by omega : j < i ∨ j = i) with e | rfl
          · exact HRR.out j z e hz
          · rw [HY.out] at hz
            injection hz with hz
            rw [← hz]
            exact hq
        case measure => simp only [intOf]; omega
    · obtain rfl : i = n := by omega
      have HF : Hid (findN L nm = none) := findN_none (fun j z hz => HRR.out j z (by have := (List.getElem?_eq_some_iff.1 hz).1; have := HL.out.len; omega) hz)
      have HE : Hid (aggS S = .agg #[.string ⟨#[]⟩, .int .i64 0, .int .i64 0, .bool false, .int .i64 0, .int .i64 0, .int .i64 0] ∧ b = false) := by
        unfold Hid
        rw [← HS.out, ← HBB.out]
        unfold fsS fsB
        rw [HF.out]
        exact ⟨rfl, rfl⟩
      have hlt' : ¬ (i : Int) < (i : Int) := by omega
      go_wp2
      refine bodyPost_ret (v := .tuple #[aggS S, .bool b]) (by rw [HE.out.1, HE.out.2]; simp [results, Try.results36, go_sem, z0, z1, z2, z3, z4, z5, z6]) rfl ⟨rfl, ?_⟩
      iterate 7 (refine Below.setCell ?_ (by dsimp only; omega) _)
      exact HB1.out

theorem lk_long {x : Tx} (h : 20 < x.length) : lkS x = spZ ∧ lkB x = false := by
  unfold lkS lkB
  rw [lookT_long h]
  exact ⟨rfl, rfl⟩
theorem lk_byN (x : Tx) : fsS byN (lowL x) = lkS x ∧ fsB byN (lowL x) = lkB x := by
  unfold fsS fsB lkS lkB
  rw [lookT_byN]
  exact ⟨rfl, rfl⟩

set_option maxRecDepth 100000 in
set_option maxHeartbeats 8000000 in
theorem rlook_any (x : Tx) (hx : x.length ≤ 140737488355328) (w : World) :
    Calls Try.prog 11 #[.string ⟨x.toArray⟩] w fun e w' => e = .returned (.tuple #[aggS (lkS x), .bool (lkB x)]) ∧ Below w.heap.size w w' := by
  obtain ⟨n, hn⟩ : ∃ n, x.length = n := ⟨_, rfl⟩
  have hSz : (⟨x.toArray⟩ : ByteArray).size = n := by rw [← hn]; exact List.size_toArray ..
  have HLO := Lib.hid (fun W => rlower_any x (by omega) W)
  have HAL := Lib.hid rall_any
  have HOF := Lib.hid (fun (A : Option Addr) (c : Nat) (X : World) (h : SpAt X A 99 c byN) => of_any (lowL x) X h (by omega))
  have HLK := Lib.hid (lk_byN x)
  have HLG := Lib.hid (fun h => lk_long (x := x) h)
  rw [hn] at HLG hx
  obtain ⟨S, hS⟩ : ∃ S : ByteArray, (⟨x.toArray⟩ : ByteArray) = S := ⟨_, rfl⟩
  rw [hS] at hSz HLO
  rw [hS]
  obtain ⟨LX, hLX⟩ : ∃ LX : ByteArray, (⟨(lowL x).toArray⟩ : ByteArray) = LX := ⟨_, rfl⟩
  rw [hLX] at HLO HOF
  obtain ⟨B, hB⟩ : ∃ B, w.heap.size = B := ⟨_, rfl⟩
  obtain ⟨w1, hw1⟩ : ∃ w1, w.alloc (.cells #[.string ⟨#[]⟩, .int .i64 0, .int .i64 0, .bool false, .int .i64 0, .int .i64 0, .int .i64 0] 27) = w1 := ⟨_, rfl⟩
  have b1 : Below B w w1 := by rw [← hw1, ← hB]; exact (Below.refl _ _).alloc (Nat.le_refl _) _
  have r1 : w1.rowIs B 27 7 (f7 (.string ⟨#[]⟩) (.int .i64 0) (.int .i64 0) (.bool false) (.int .i64 0) (.int .i64 0) (.int .i64 0)) := by rw [← hw1, ← hB]; exact rows7 w _ _ _ _ _ _ _ _
  have s1 : w1.heap.size = B + 1 := by rw [← hw1, World.size_alloc, hB]
  have HR := Lib.hid r1
  have HB1 := Lib.hid b1
  have HW1 := Lib.hid hw1
  have HS1 := Lib.hid s1
  rw [hB]
  by_cases hl : 20 < n
  · have hl' : (20 : Int) < (n : Int) := by omega
    obtain ⟨-, z0, z1, z2, z3, z4, z5, z6, -⟩ := box7_of_row r1
    have HE : Hid (aggS (lkS x) = .agg #[.string ⟨#[]⟩, .int .i64 0, .int .i64 0, .bool false, .int .i64 0, .int .i64 0, .int .i64 0] ∧ lkB x = false) := by
      unfold Hid
      rw [(HLG.out hl).1, (HLG.out hl).2]
      exact ⟨rfl, rfl⟩
    clear hn hS hLX b1 r1 s1 hw1
    go_enter Try.func11, Try.ntmps11
    go_wp2
    rw [HW1.out]
    exact bodyPost_ret (v := .tuple #[aggS (lkS x), .bool (lkB x)]) (by rw [HE.out.1, HE.out.2]; simp [results, Try.results11, go_sem, z0, z1, z2, z3, z4, z5, z6]) rfl ⟨rfl, HB1.out⟩
  · have hl' : ¬ (20 : Int) < (n : Int) := by omega
    clear hn hS hLX b1 r1 s1 hw1
    go_enter Try.func11, Try.ntmps11
    go_wp2_with fail
    rw [HW1.out]
    refine (HAL.out _).mono ?_
    rintro e w2 ⟨A, c, rfl, h2, hb2, -⟩
    have HS2 := Lib.hid h2
    have HB2 := Lib.hid hb2
    clear h2 hb2
    go_wp2_with fail
    refine (HLO.out _).mono ?_
    rintro e w3 ⟨rfl, hb3⟩
    have HS3 := Lib.hid (HS2.out.below hb3)
    have HB3 := Lib.hid (bup HB2.out hb3)
    clear hb3
    go_wp2_with fail
    refine (HOF.out _ _ _ HS3.out).mono ?_
    rintro e w4 ⟨rfl, hb4⟩
    have HB4 := Lib.hid (bup HB3.out hb4)
    clear hb4
    rw [HLK.out.1, HLK.out.2]
    obtain ⟨-, z0, z1, z2, z3, z4, z5, z6, zf⟩ := box7_of_row (HR.out.of_block (HB4.out.block B HR.out.lt))
    have zf0 := zf 0
    have zf1 := zf 1
    have zf2 := zf 2
    have zf3 := zf 3
    have zf4 := zf 4
    have zf5 := zf 5
    have zf6 := zf 6
    clear zf
    obtain ⟨⟨nm, g, ar, wr_, f, la, st⟩, hy⟩ : ∃ y, lkS x = y := ⟨_, rfl⟩
    have HY := Lib.hid hy
    obtain ⟨bb, hbb⟩ : ∃ bb, lkB x = bb := ⟨_, rfl⟩
    have HBB := Lib.hid hbb
    rw [hy, hbb]
    unfold aggS encS
    dsimp only
    have hBw : B < w1.heap.size := HR.out.lt
    clear hy hbb
    go_wp2
    refine bodyPost_ret (v := .tuple #[aggS (lkS x), .bool (lkB x)]) (by rw [HY.out, HBB.out]; unfold aggS encS; simp [results, Try.results11, go_sem, z0, z1, z2, z3, z4, z5, z6]) rfl ⟨rfl, ?_⟩
    iterate 7 (refine Below.setCell ?_ (by dsimp only; omega) _)
    exact HB1.out.trans (HB4.out.mono (by omega))

end Go.Proofs.Ytinpimejiepahaa
