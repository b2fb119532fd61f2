/-
  The document's Check, at any arguments. Conditions: at most 2000 arguments of at most 1000 bytes each, in memory.
-/
import Derived.Test.YtinpimejiepahaaCmL
namespace Go.Proofs.Ytinpimejiepahaa
open Go.RowKit

theorem look_empty : lookT [] = none := by
  cases hq : lookT [] with
  | none => rfl
  | some s =>
    obtain ⟨h1, h2⟩ := lookT_iff.1 hq
    have := (goodS h1).some
    rw [h2] at this
    exact absurd this (by decide)

set_option maxRecDepth 100000 in
set_option maxHeartbeats 16000000 in
theorem rcheck_any {A : Option Addr} {n c : Nat} {L : List Tx} (w : World) (h : TxAt w A n c L) (hn : n ≤ 2000) (hl : ∀ x ∈ L, x.length ≤ 1000) :
    Calls Try.prog 19 #[.slice A n c] w fun e w' => e = .returned (chkV L) ∧ Below w.heap.size w w' := by
  have HIN := Lib.hid h
  have hlen := h.len
  have hle := h.le
  obtain ⟨R, hR⟩ : ∃ R, chkV L = R := ⟨_, rfl⟩
  have HRV := Lib.hid hR
  rw [hR]
  obtain ⟨B, hB⟩ : ∃ B, w.heap.size = B := ⟨_, rfl⟩
  have HBS := Lib.hid hB
  rw [hB]
  obtain ⟨w1, hw1⟩ : ∃ w1, w.alloc (.cells #[.string ⟨#[]⟩, .int .i64 0, .int .i64 0, .bool false, .int .i64 0, .int .i64 0, .int .i64 0] 27) = w1 := ⟨_, rfl⟩
  obtain ⟨w2, hw2⟩ : ∃ w2, w1.alloc (.cells #[.int .i64 0, .string ⟨#[]⟩, .int .i64 0, .slice none 0 0] 37) = w2 := ⟨_, rfl⟩
  have s1 : w1.heap.size = B + 1 := by rw [← hw1, World.size_alloc, hB]
  have s2 : w2.heap.size = B + 2 := by rw [← hw2, World.size_alloc, s1]
  have b1 : Below B w w1 := by rw [← hw1, ← hB]; exact (Below.refl _ _).alloc (Nat.le_refl _) _
  have b2 : Below w1.heap.size w1 w2 := by rw [← hw2]; exact (Below.refl _ _).alloc (Nat.le_refl _) _
  have r1 : w1.rowIs B 27 7 (f7 (.string ⟨#[]⟩) (.int .i64 0) (.int .i64 0) (.bool false) (.int .i64 0) (.int .i64 0) (.int .i64 0)) := by rw [← hw1, ← hB]; exact rows7 w _ _ _ _ _ _ _ _
  have HR2 : Hid (w2.rowIs (B + 1) 37 4 (f4 (.int .i64 0) (.string ⟨#[]⟩) (.int .i64 0) (.slice none 0 0))) := by unfold Hid; rw [← hw2, ← s1]; exact rows4 w1 _ _ _ _ _
  have HR1 : Hid (w2.rowIs B 27 7 (f7 (.string ⟨#[]⟩) (.int .i64 0) (.int .i64 0) (.bool false) (.int .i64 0) (.int .i64 0) (.int .i64 0))) := r1.of_block (b2.block B r1.lt)
  have HB2 : Hid (Below B w w2) := b1.trans (b2.mono (by omega))
  have HW2 : Hid ((w.alloc (.cells #[.string ⟨#[]⟩, .int .i64 0, .int .i64 0, .bool false, .int .i64 0, .int .i64 0, .int .i64 0] 27)).alloc (.cells #[.int .i64 0, .string ⟨#[]⟩, .int .i64 0, .slice none 0 0] 37) = w2) := by unfold Hid; rw [hw1, hw2]
  have HS2 := Lib.hid s2
  have hs2 := s2
  clear h hR hw1 hw2 s1 s2 b1 b2 r1
  have HRF := Lib.hid rerror_any
  rcases L with _ | ⟨a, L⟩
  · obtain rfl : n = 0 := hlen.symm
    have HLK := rlook_any [] (by decide)
    have e0 : lkS [] = spZ ∧ lkB [] = false := by
      unfold lkS lkB
      rw [look_empty]
      exact ⟨rfl, rfl⟩
    rw [e0.1, e0.2] at HLK
    have HLK := Lib.hid HLK
    have HPL := rplain_any [] (by decide)
    have HUT := unk_text []
    have hPs : (⟨(plnL []).toArray⟩ : ByteArray).size ≤ 128 := by show (plnL []).toArray.size ≤ 128; rw [List.size_toArray]; exact plnL_length []
    obtain ⟨P, hP⟩ : ∃ P : ByteArray, (⟨(plnL []).toArray⟩ : ByteArray) = P := ⟨_, rfl⟩
    obtain ⟨T1, hT1⟩ : ∃ T1 : ByteArray, (⟨(unkT []).toArray⟩ : ByteArray) = T1 := ⟨_, rfl⟩
    rw [hP] at HPL hPs HUT
    rw [hT1] at HUT
    have HPL := Lib.hid HPL
    have HUT := Lib.hid HUT
    have HE : Hid (R = .tuple #[zeroV, errV T1, .bool false]) := by
      unfold Hid
      rw [← HRV.out]
      unfold chkV
      rw [chk_nil, ← hT1]
      rfl
    clear hT1 hP e0
    go_enter Try.func19, Try.ntmps19
    go_wp2_with fail
    rw [HW2.out]
    refine (HLK.out _).mono ?_
    rintro e w3 ⟨rfl, hb3⟩
    have HB3 := Lib.hid hb3
    clear hb3
    unfold aggS encS spZ
    dsimp only
    go_wp2_with fail
    have HB4 : Hid (Below w2.heap.size w2 (w3.alloc (.cells #[.string ⟨#[]⟩, .int .i64 0, .int .i64 0, .bool false, .int .i64 0, .int .i64 0, .int .i64 0] 27))) := HB3.out.alloc HB3.out.size _
    refine (HPL.out _).mono ?_
    rintro e w5 ⟨rfl, hb5⟩
    have HB5 := Lib.hid (bup HB4.out hb5)
    clear hb5
    go_wp2_with fail
    refine (HRF.out _ _).mono ?_
    rintro e w7 ⟨rfl, hb7⟩
    have HB7 := Lib.hid (bup HB5.out hb7)
    clear hb7
    obtain ⟨-, z0, z1, z2, z3, z4, z5, z6, zf⟩ := box7_of_row (HR1.out.of_block (HB7.out.block _ HR1.out.lt))
    have zf0 := zf 0
    have zf1 := zf 1
    have zf2 := zf 2
    have zf3 := zf 3
    have zf4 := zf 4
    have zf5 := zf 5
    have zf6 := zf 6
    obtain ⟨y0, y1, y2, y3, yf⟩ := box4_of_row (HR2.out.of_block (HB7.out.block _ HR2.out.lt))
    have yf0 := yf 0
    have yf1 := yf 1
    have yf2 := yf 2
    have yf3 := yf 3
    clear zf yf
    unfold errV
    go_wp2
    refine bodyPost_ret (v := R) (by rw [HE.out]; unfold zeroV errV; simp [results, Try.results19, go_sem, z0, z1, z2, z3, z4, z5, z6, y0, y1, y2, y3]) rfl ⟨rfl, ?_⟩
    iterate 11 (refine Below.setCell ?_ (by dsimp only; omega) _)
    exact HB2.out.trans (HB7.out.mono (by omega))
  · have hpos : 0 < n := by rw [← hlen]; exact Nat.succ_pos _
    have ha := hl a (List.mem_cons_self ..)
    have HLK := Lib.hid (fun W => rlook_any a (by omega) W)
    have HPL := Lib.hid (fun W => rplain_any a (by omega) W)
    have HUT := unk_text a
    have hPs : (⟨(plnL a).toArray⟩ : ByteArray).size ≤ 128 := by show (plnL a).toArray.size ≤ 128; rw [List.size_toArray]; exact plnL_length a
    obtain ⟨b, o, rfl, hbl, hc⟩ := HIN.out.at_ hpos
    have HC0 : Hid (∀ X, Below w.heap.size w X → X.cell? ⟨b, o, none⟩ = some (.string ⟨a.toArray⟩)) := fun X hX => (hX.cell (p := ⟨b, o, none⟩) hbl).trans (hc 0 a rfl)
    have hn1 : (0 : Int) < (n : Int) := by omega
    have c1 : ((w.alloc (.cells #[.string ⟨#[]⟩, .int .i64 0, .int .i64 0, .bool false, .int .i64 0, .int .i64 0, .int .i64 0] 27)).alloc (.cells #[.int .i64 0, .string ⟨#[]⟩, .int .i64 0, .slice none 0 0] 37)).cell? ⟨b, o, none⟩ = some (.string ⟨a.toArray⟩) := by rw [HW2.out]; exact HC0.out w2 (by rw [HBS.out]; exact HB2.out)
    obtain ⟨TA, hTA⟩ : ∃ TA : ByteArray, (⟨a.toArray⟩ : ByteArray) = TA := ⟨_, rfl⟩
    rw [hTA] at c1 HLK HPL
    clear hTA hbl hc
    cases hq : lookT a with
    | none =>
      have HE : Hid (R = .tuple #[zeroV, errV ⟨(unkT a).toArray⟩, .bool false] ∧ lkS a = spZ ∧ lkB a = false) := by
        unfold Hid
        rw [← HRV.out]
        unfold chkV lkS lkB
        rw [chk_unk hq, hq]
        exact ⟨rfl, rfl, rfl⟩
      obtain ⟨P, hP⟩ : ∃ P : ByteArray, (⟨(plnL a).toArray⟩ : ByteArray) = P := ⟨_, rfl⟩
      obtain ⟨T1, hT1⟩ : ∃ T1 : ByteArray, (⟨(unkT a).toArray⟩ : ByteArray) = T1 := ⟨_, rfl⟩
      rw [hP] at HPL hPs HUT
      rw [hT1] at HUT HE
      have HUT := Lib.hid HUT
      rw [HE.out.2.1, HE.out.2.2] at HLK
      clear hT1 hq hP
      go_enter Try.func19, Try.ntmps19
      go_wp2_with fail
      rw [HW2.out]
      refine (HLK.out _).mono ?_
      rintro e w3 ⟨rfl, hb3⟩
      have HB3 := Lib.hid hb3
      clear hb3
      unfold aggS encS spZ
      dsimp only
      go_wp2_with fail
      have HB4 : Hid (Below w2.heap.size w2 (w3.alloc (.cells #[.string ⟨#[]⟩, .int .i64 0, .int .i64 0, .bool false, .int .i64 0, .int .i64 0, .int .i64 0] 27))) := HB3.out.alloc HB3.out.size _
      refine (HPL.out _).mono ?_
      rintro e w5 ⟨rfl, hb5⟩
      have HB5 := Lib.hid (bup HB4.out hb5)
      clear hb5
      go_wp2_with fail
      refine (HRF.out _ _).mono ?_
      rintro e w7 ⟨rfl, hb7⟩
      have HB7 := Lib.hid (bup HB5.out hb7)
      clear hb7
      obtain ⟨-, z0, z1, z2, z3, z4, z5, z6, zf⟩ := box7_of_row (HR1.out.of_block (HB7.out.block _ HR1.out.lt))
      have zf0 := zf 0
      have zf1 := zf 1
      have zf2 := zf 2
      have zf3 := zf 3
      have zf4 := zf 4
      have zf5 := zf 5
      have zf6 := zf 6
      obtain ⟨y0, y1, y2, y3, yf⟩ := box4_of_row (HR2.out.of_block (HB7.out.block _ HR2.out.lt))
      have yf0 := yf 0
      have yf1 := yf 1
      have yf2 := yf 2
      have yf3 := yf 3
      clear zf yf
      unfold errV
      go_wp2
      refine bodyPost_ret (v := R) (by rw [HE.out.1]; unfold zeroV errV; simp [results, Try.results19, go_sem, z0, z1, z2, z3, z4, z5, z6, y0, y1, y2, y3]) rfl ⟨rfl, ?_⟩
      iterate 11 (refine Below.setCell ?_ (by dsimp only; omega) _)
      exact HB2.out.trans (HB7.out.mono (by omega))
    | some s =>
      obtain ⟨hmem, -⟩ := lookT_iff.1 hq
      have hgo := low_arg s hmem
      have hsh := (goodS hmem).short
      have HLV : Hid (lkS a = s ∧ lkB a = true) := by
        unfold Hid lkS lkB
        rw [hq]
        exact ⟨rfl, rfl⟩
      rw [HLV.out.1, HLV.out.2] at HLK
      have HQ := Lib.hid hq
      obtain ⟨nm, g, ar, wr_, f, la, st⟩ := s
      dsimp only at hgo hsh
      have HTB : Hid (tkB (nm, g, ar, wr_, f, la, st) n = if ar < 0 then decide (-ar ≤ n) else decide ((n : Int) = ar)) := rfl
      have HAT := Lib.hid (arg_text nm)
      obtain ⟨T, hT⟩ : ∃ T : ByteArray, (⟨nm.toArray⟩ : ByteArray) = T := ⟨_, rfl⟩
      have hTs : T.size ≤ 20 := by rw [← hT]; show nm.toArray.size ≤ 20; rw [List.size_toArray]; exact hsh
      rw [hT] at HAT
      have HT := Lib.hid hT
      unfold aggS encS at HLK
      dsimp only at HLK
      rw [hT] at HLK
      have hwr : IntKind.i64.wrap (-ar) = -ar := IntWalk.i64_in _ (by omega)
      clear hq hmem hgo hsh hT
      cases htk : tkB (nm, g, ar, wr_, f, la, st) n with
      | false =>
        have HE : Hid (R = .tuple #[zeroV, errV ⟨(argT nm).toArray⟩, .bool false]) := by
          unfold Hid
          rw [← HRV.out]
          unfold chkV
          rw [chk_arg HQ.out (by rw [hlen]; exact htk)]
          rfl
        rw [HTB.out] at htk
        by_cases har : ar < 0
        · rw [if_pos har, decide_eq_false_iff_not] at htk
          have har2 : ¬ 0 ≤ ar := by omega
          have hlt3 : (n : Int) < -ar := by omega
          go_enter Try.func19, Try.ntmps19
          go_wp2_with fail
          rw [HW2.out]
          refine (HLK.out _).mono ?_
          rintro e w3 ⟨rfl, hb3⟩
          have HB3 := Lib.hid hb3
          clear hb3
          obtain ⟨w4, hw4⟩ : ∃ w4, w3.alloc (.cells #[.string T, .int .i64 g, .int .i64 ar, .bool wr_, .int .i64 f, .int .i64 la, .int .i64 st] 27) = w4 := ⟨_, rfl⟩
          have HB4 : Hid (Below w2.heap.size w2 w4) := by unfold Hid; rw [← hw4]; exact HB3.out.alloc HB3.out.size _
          have HW4 := Lib.hid hw4
          clear hw4
          go_wp2_with fail
          rw [HAT.out, HW4.out]
          obtain ⟨T1, hT1⟩ : ∃ T1 : ByteArray, (⟨(argT nm).toArray⟩ : ByteArray) = T1 := ⟨_, rfl⟩
          rw [hT1]
          rw [hT1] at HE
          refine (HRF.out _ _).mono ?_
          rintro e w7 ⟨rfl, hb7⟩
          have HB7 := Lib.hid (bup HB4.out hb7)
          clear hb7 hT1
          obtain ⟨-, z0, z1, z2, z3, z4, z5, z6, zf⟩ := box7_of_row (HR1.out.of_block (HB7.out.block _ HR1.out.lt))
          have zf0 := zf 0
          have zf1 := zf 1
          have zf2 := zf 2
          have zf3 := zf 3
          have zf4 := zf 4
          have zf5 := zf 5
          have zf6 := zf 6
          obtain ⟨y0, y1, y2, y3, yf⟩ := box4_of_row (HR2.out.of_block (HB7.out.block _ HR2.out.lt))
          have yf0 := yf 0
          have yf1 := yf 1
          have yf2 := yf 2
          have yf3 := yf 3
          clear zf yf
          unfold errV
          go_wp2
          refine bodyPost_ret (v := R) (by rw [HE.out]; unfold zeroV errV; simp [results, Try.results19, go_sem, z0, z1, z2, z3, z4, z5, z6, y0, y1, y2, y3]) rfl ⟨rfl, ?_⟩
          iterate 11 (refine Below.setCell ?_ (by dsimp only; omega) _)
          exact HB2.out.trans (HB7.out.mono (by omega))
        · rw [if_neg har, decide_eq_false_iff_not] at htk
          have har2 : 0 ≤ ar := by omega
          have hne3 : ¬ (n : Int) = ar := htk
          go_enter Try.func19, Try.ntmps19
          go_wp2_with fail
          rw [HW2.out]
          refine (HLK.out _).mono ?_
          rintro e w3 ⟨rfl, hb3⟩
          have HB3 := Lib.hid hb3
          clear hb3
          obtain ⟨w4, hw4⟩ : ∃ w4, w3.alloc (.cells #[.string T, .int .i64 g, .int .i64 ar, .bool wr_, .int .i64 f, .int .i64 la, .int .i64 st] 27) = w4 := ⟨_, rfl⟩
          have HB4 : Hid (Below w2.heap.size w2 w4) := by unfold Hid; rw [← hw4]; exact HB3.out.alloc HB3.out.size _
          have HW4 := Lib.hid hw4
          clear hw4
          go_wp2_with fail
          rw [HAT.out, HW4.out]
          obtain ⟨T1, hT1⟩ : ∃ T1 : ByteArray, (⟨(argT nm).toArray⟩ : ByteArray) = T1 := ⟨_, rfl⟩
          rw [hT1]
          rw [hT1] at HE
          refine (HRF.out _ _).mono ?_
          rintro e w7 ⟨rfl, hb7⟩
          have HB7 := Lib.hid (bup HB4.out hb7)
          clear hb7 hT1
          obtain ⟨-, z0, z1, z2, z3, z4, z5, z6, zf⟩ := box7_of_row (HR1.out.of_block (HB7.out.block _ HR1.out.lt))
          have zf0 := zf 0
          have zf1 := zf 1
          have zf2 := zf 2
          have zf3 := zf 3
          have zf4 := zf 4
          have zf5 := zf 5
          have zf6 := zf 6
          obtain ⟨y0, y1, y2, y3, yf⟩ := box4_of_row (HR2.out.of_block (HB7.out.block _ HR2.out.lt))
          have yf0 := yf 0
          have yf1 := yf 1
          have yf2 := yf 2
          have yf3 := yf 3
          clear zf yf
          unfold errV
          go_wp2
          refine bodyPost_ret (v := R) (by rw [HE.out]; unfold zeroV errV; simp [results, Try.results19, go_sem, z0, z1, z2, z3, z4, z5, z6, y0, y1, y2, y3]) rfl ⟨rfl, ?_⟩
          iterate 11 (refine Below.setCell ?_ (by dsimp only; omega) _)
          exact HB2.out.trans (HB7.out.mono (by omega))
      | true =>
        have HE : Hid (R = .tuple #[.agg #[.string T, .int .i64 g, .int .i64 ar, .bool wr_, .int .i64 f, .int .i64 la, .int .i64 st], okV, .bool true]) := by
          unfold Hid
          rw [← HRV.out]
          unfold chkV
          rw [chk_ok HQ.out (by rw [hlen]; exact htk), ← HT.out]
          rfl
        rw [HTB.out] at htk
        by_cases har : ar < 0
        · rw [if_pos har, decide_eq_true_eq] at htk
          have har2 : ¬ 0 ≤ ar := by omega
          have hlt3 : ¬ (n : Int) < -ar := by omega
          go_enter Try.func19, Try.ntmps19
          go_wp2_with fail
          rw [HW2.out]
          refine (HLK.out _).mono ?_
          rintro e w3 ⟨rfl, hb3⟩
          have HB3 := Lib.hid hb3
          clear hb3
          obtain ⟨w4, hw4⟩ : ∃ w4, w3.alloc (.cells #[.string T, .int .i64 g, .int .i64 ar, .bool wr_, .int .i64 f, .int .i64 la, .int .i64 st] 27) = w4 := ⟨_, rfl⟩
          have HB4 : Hid (Below w2.heap.size w2 w4) := by unfold Hid; rw [← hw4]; exact HB3.out.alloc HB3.out.size _
          have HW4 := Lib.hid hw4
          have HB4A : Hid (Below w2.heap.size w2 (w3.alloc (.cells #[.string T, .int .i64 g, .int .i64 ar, .bool wr_, .int .i64 f, .int .i64 la, .int .i64 st] 27))) := by unfold Hid; rw [HW4.out]; exact HB4.out
          clear hw4
          obtain ⟨-, z0, z1, z2, z3, z4, z5, z6, zf⟩ := box7_of_row (HR1.out.of_block (HB4A.out.block _ HR1.out.lt))
          have zf0 := zf 0
          have zf1 := zf 1
          have zf2 := zf 2
          have zf3 := zf 3
          have zf4 := zf 4
          have zf5 := zf 5
          have zf6 := zf 6
          obtain ⟨y0, y1, y2, y3, yf⟩ := box4_of_row (HR2.out.of_block (HB4A.out.block _ HR2.out.lt))
          have yf0 := yf 0
          have yf1 := yf 1
          have yf2 := yf 2
          have yf3 := yf 3
          clear zf yf
          go_wp2
          refine bodyPost_ret (v := R) (by rw [HE.out]; unfold okV; simp [results, Try.results19, go_sem, z0, z1, z2, z3, z4, z5, z6, y0, y1, y2, y3]) rfl ⟨rfl, ?_⟩
          iterate 11 (refine Below.setCell ?_ (by dsimp only; omega) _)
          exact HB2.out.trans (HB4A.out.mono (by omega))
        · rw [if_neg har, decide_eq_true_eq] at htk
          have har2 : 0 ≤ ar := by omega
          have hlt3 : ¬ (n : Int) < -ar := by omega
          go_enter Try.func19, Try.ntmps19
          go_wp2_with fail
          rw [HW2.out]
          refine (HLK.out _).mono ?_
          rintro e w3 ⟨rfl, hb3⟩
          have HB3 := Lib.hid hb3
          clear hb3
          obtain ⟨w4, hw4⟩ : ∃ w4, w3.alloc (.cells #[.string T, .int .i64 g, .int .i64 ar, .bool wr_, .int .i64 f, .int .i64 la, .int .i64 st] 27) = w4 := ⟨_, rfl⟩
          have HB4 : Hid (Below w2.heap.size w2 w4) := by unfold Hid; rw [← hw4]; exact HB3.out.alloc HB3.out.size _
          have HW4 := Lib.hid hw4
          have HB4A : Hid (Below w2.heap.size w2 (w3.alloc (.cells #[.string T, .int .i64 g, .int .i64 ar, .bool wr_, .int .i64 f, .int .i64 la, .int .i64 st] 27))) := by unfold Hid; rw [HW4.out]; exact HB4.out
          clear hw4
          obtain ⟨-, z0, z1, z2, z3, z4, z5, z6, zf⟩ := box7_of_row (HR1.out.of_block (HB4A.out.block _ HR1.out.lt))
          have zf0 := zf 0
          have zf1 := zf 1
          have zf2 := zf 2
          have zf3 := zf 3
          have zf4 := zf 4
          have zf5 := zf 5
          have zf6 := zf 6
          obtain ⟨y0, y1, y2, y3, yf⟩ := box4_of_row (HR2.out.of_block (HB4A.out.block _ HR2.out.lt))
          have yf0 := yf 0
          have yf1 := yf 1
          have yf2 := yf 2
          have yf3 := yf 3
          clear zf yf
          go_wp2
          refine bodyPost_ret (v := R) (by rw [HE.out]; unfold okV; simp [results, Try.results19, go_sem, z0, z1, z2, z3, z4, z5, z6, y0, y1, y2, y3]) rfl ⟨rfl, ?_⟩
          iterate 11 (refine Below.setCell ?_ (by dsimp only; omega) _)
          exact HB2.out.trans (HB4A.out.mono (by omega))

end Go.Proofs.Ytinpimejiepahaa
