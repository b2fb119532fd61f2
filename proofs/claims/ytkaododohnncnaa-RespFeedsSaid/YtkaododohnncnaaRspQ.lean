/-
  The walk of the document's own quoted part. Conditions: the text is a text of at most a million bytes.
-/
import Derived.Test.YtkaododohnncnaaRspL
namespace Go.Proofs.Ytkaododohnncnaa
open Go.RowKit
set_option maxHeartbeats 4000000 in
set_option maxRecDepth 100000 in
theorem rquoted_34 (s : ByteArray) (at_ : Nat) (w : World) (hs : s.size ≤ 1000000) (hat : at_ < s.size) (hq : (s[at_]'hat) = 34) :
    Calls Try.prog 39 #[.string s, .int .i64 at_] w (QuotPost w s.size (quotS 34 (s.size + 1) (s.data.toList.drop (at_ + 1)) [])) := by
  obtain ⟨R, hR⟩ : ∃ R, quotS 34 (s.size + 1) (s.data.toList.drop (at_ + 1)) [] = R := ⟨_, rfl⟩
  have HR := Lib.hid hR
  rw [hR]
  clear hR
  obtain ⟨i0, hi, hy0, hy1, hy2⟩ := info_parts info_u8
  go_enter Try.func39, Try.ntmps39
  go_wp2
  go_loopw [8, 9, 10, 11] (fun v i _ _ wr => ∃ (k : Nat) (acc : List UInt8) (f : Nat), i = .int .i64 k ∧ k ≤ s.size ∧ acc.length ≤ k ∧ s.size < f + k ∧ wr.ownsRow w.heap.size 5 1 v acc.length (Lib.byteCells acc) ∧ Below w.heap.size w wr ∧ Hid (quotS 34 f (s.data.toList.drop k) acc = R)) (fun _ i _ _ _ => s.size - (intOf i).toNat)
  case atStart => exact ⟨at_ + 1, [], s.size + 1, by go_num, by omega, by simp, by omega, ⟨rfl, .inl ⟨rfl, rfl⟩⟩, Below.refl _ _, HR.out⟩
  case round =>
    clear HR
    obtain ⟨k, acc, f, rfl, hk, hak, hf, hown, hb, HG⟩ := hrel
    by_cases hlt : k < s.size
    · have hd := drop_at s k hlt
      obtain ⟨c, hc⟩ : ∃ c : UInt8, (s[k]'hlt) = c := ⟨_, rfl⟩
      rw [hc] at hd
      have HD := Lib.hid hd
      clear hd
      obtain ⟨f, rfl⟩ : ∃ g, f = g + 1 := ⟨f - 1, by omega⟩
      by_cases hq1 : c = 34
      · subst hq1
        have HE : Hid (R = some (acc, s.data.toList.drop (k + 1))) := by
          unfold Hid; rw [← HG.out, HD.out]; exact quotS_end 34 f _ acc
        clear HG
        go_wp2
        go_ret3
        refine ⟨hb, ?_⟩
        rw [HE.out]
        refine ⟨_, ?_, hown⟩
        rw [drop_len s (k + 1) (by omega)]
        rfl
      by_cases h92 : c = 92
      · subst h92
        have hel := escS_le (s.data.toList.drop (k + 1))
        have hlen : (s.data.toList.drop (k + 1)).length = s.size - (k + 1) := by rw [List.length_drop, Array.length_toList]; rfl
        have HE : Hid (quotS 34 f (s.data.toList.drop (k + (escS (s.data.toList.drop (k + 1))).2)) (acc ++ [(escS (s.data.toList.drop (k + 1))).1]) = R) := by
          unfold Hid; rw [← HG.out, HD.out, quotS_esc, ← HD.out, List.drop_drop]
        clear HG
        have HC := Lib.hid (rescape_any s k)
        go_wp2_with fail
        refine (HC.out _ (by omega) hlt).mono ?_
        generalize (escS (s.data.toList.drop (k + 1))).1 = ev at HE ⊢
        generalize (escS (s.data.toList.drop (k + 1))).2 = en at HE hel ⊢
        rw [hlen] at hel
        obtain ⟨en1, en2⟩ := hel
        rintro e w1 ⟨rfl, hb1⟩
        have hown1 := ownsRow_below hown hb1
        have hbb : Below w.heap.size w w1 := hb.trans (hb1.mono hb.size)
        clear hlen
        go_wp2_with (at_builtin; refine wpList_append_own _ rfl _ _ 27 rfl w.heap.size 5 i0 (.int .u8 0) 1 1 Try.underlying27 hi hy0 hy1 hy2 rfl (by decide) _ _ _ rfl (hown1.alloc _) ⟨w1.heap.size, 0, none⟩ 1 1 [.int .u8 (ev.toNat : Int)] rfl rfl ?c1x2 ?c2x2 ?c3x2 ?c4x2 ?c5x2 ?_)
        try case c1x2 =>
          intro j u hj
          cases j with
          | zero => simp at hj; subst hj; simp [Addr.add, World.cell?_alloc_at]
          | succ j => simp at hj
        case c2x2 => first | rfl | (intro u hu; simp at hu; subst hu; rfl)
        case c3x2 => unfold maxLen; omega
        case c4x2 => omega
        case c5x2 => (have := hbb.size; first | omega | (rw [World.size_alloc]; omega) | (simp; omega))
        intro v' w3 hown3 hgr3 _
        have hb3 : Below w.heap.size w w3 := (hbb.alloc hbb.size _).grown hgr3 (by simp; have := hbb.size; omega) (fun g hg => (hown1.lt g hg).1)
        have hs' := bytes_snoc acc ev
        rw [← hs'] at hown3
        clear hs' hc
        have HG3 := Lib.hid hgr3
        clear hgr3
        go_wp2
        go_roundw
        case rel => exact ⟨k + en, acc ++ [ev], f, by go_num, by omega, by rw [List.length_append]; simp only [List.length_singleton]; omega, by omega, by rw [List.length_append]; exact hown3, hb3, HE.out⟩
        case measure => simp only [intOf]; omega
      · have HE : Hid (quotS 34 f (s.data.toList.drop (k + 1)) (acc ++ [c]) = R) := by
          unfold Hid; rw [← HG.out, HD.out]; exact (quotS_plain 34 f c _ acc hq1 h92).symm
        clear HG
        obtain ⟨x, hx⟩ : ∃ x : Nat, c.toNat = x := ⟨_, rfl⟩
        have g1 : ((x : Int) == 34) = false := neI hx hq1
        have g2 : ((x : Int) == 92) = false := neI hx h92
        clear hq1 h92
        go_wp2_with (at_builtin; refine wpList_append_own _ rfl _ _ 27 rfl w.heap.size 5 i0 (.int .u8 0) 1 1 Try.underlying27 hi hy0 hy1 hy2 rfl (by decide) _ _ _ rfl (hown.alloc _) ⟨wr.heap.size, 0, none⟩ 1 1 [.int .u8 (x : Int)] rfl rfl ?c1x1 ?c2x1 ?c3x1 ?c4x1 ?c5x1 ?_)
        try case c1x1 =>
          intro j u hj
          cases j with
          | zero => simp at hj; subst hj; simp [Addr.add, World.cell?_alloc_at]
          | succ j => simp at hj
        case c2x1 => first | rfl | (intro u hu; simp at hu; subst hu; rfl)
        case c3x1 => unfold maxLen; omega
        case c4x1 => omega
        case c5x1 => (have := hb.size; first | omega | (rw [World.size_alloc]; omega) | (simp; omega))
        intro v' w3 hown3 hgr3 _
        have hb3 : Below w.heap.size w w3 := (hb.alloc hb.size _).grown hgr3 (by simp; have := hb.size; omega) (fun g hg => (hown.lt g hg).1)
        have hs' := bytes_snoc acc c
        rw [hx] at hs'
        rw [← hs'] at hown3
        clear hs' hc
        have HG3 := Lib.hid hgr3
        clear hgr3
        go_wp2
        go_roundw
        case rel => exact ⟨k + 1, acc ++ [c], f, by go_num, by omega, by rw [List.length_append]; simp only [List.length_singleton]; omega, by omega, by rw [List.length_append]; exact hown3, hb3, HE.out⟩
        case measure => simp only [intOf]; omega
    · have HE : Hid (R = none) := by
        unfold Hid; rw [← HG.out, drop_end s k (by omega)]; exact quotS_nil 34 f acc
      clear HG
      go_wp2
      go_ret3
      refine ⟨hb, ?_⟩
      rw [HE.out]
      rfl

set_option maxHeartbeats 4000000 in
set_option maxRecDepth 100000 in
theorem rquoted_39 (s : ByteArray) (at_ : Nat) (w : World) (hs : s.size ≤ 1000000) (hat : at_ < s.size) (hq : (s[at_]'hat) = 39) :
    Calls Try.prog 39 #[.string s, .int .i64 at_] w (QuotPost w s.size (quotS 39 (s.size + 1) (s.data.toList.drop (at_ + 1)) [])) := by
  obtain ⟨R, hR⟩ : ∃ R, quotS 39 (s.size + 1) (s.data.toList.drop (at_ + 1)) [] = R := ⟨_, rfl⟩
  have HR := Lib.hid hR
  rw [hR]
  clear hR
  obtain ⟨i0, hi, hy0, hy1, hy2⟩ := info_parts info_u8
  go_enter Try.func39, Try.ntmps39
  go_wp2
  go_loopw [8, 9, 10, 11] (fun v i _ _ wr => ∃ (k : Nat) (acc : List UInt8) (f : Nat), i = .int .i64 k ∧ k ≤ s.size ∧ acc.length ≤ k ∧ s.size < f + k ∧ wr.ownsRow w.heap.size 5 1 v acc.length (Lib.byteCells acc) ∧ Below w.heap.size w wr ∧ Hid (quotS 39 f (s.data.toList.drop k) acc = R)) (fun _ i _ _ _ => s.size - (intOf i).toNat)
  case atStart => exact ⟨at_ + 1, [], s.size + 1, by go_num, by omega, by simp, by omega, ⟨rfl, .inl ⟨rfl, rfl⟩⟩, Below.refl _ _, HR.out⟩
  case round =>
    clear HR
    obtain ⟨k, acc, f, rfl, hk, hak, hf, hown, hb, HG⟩ := hrel
    by_cases hlt : k < s.size
    · have hd := drop_at s k hlt
      obtain ⟨c, hc⟩ : ∃ c : UInt8, (s[k]'hlt) = c := ⟨_, rfl⟩
      rw [hc] at hd
      have HD := Lib.hid hd
      clear hd
      obtain ⟨f, rfl⟩ : ∃ g, f = g + 1 := ⟨f - 1, by omega⟩
      by_cases hq1 : c = 39
      · subst hq1
        have HE : Hid (R = some (acc, s.data.toList.drop (k + 1))) := by
          unfold Hid; rw [← HG.out, HD.out]; exact quotS_end 39 f _ acc
        clear HG
        go_wp2
        go_ret3
        refine ⟨hb, ?_⟩
        rw [HE.out]
        refine ⟨_, ?_, hown⟩
        rw [drop_len s (k + 1) (by omega)]
        rfl
      by_cases h92 : c = 92
      · subst h92
        by_cases ht : ∃ h : k + 1 < s.size, (s[k + 1]'h) = 39
        · obtain ⟨h1, ht⟩ := ht
          have HE : Hid (quotS 39 f (s.data.toList.drop (k + 2)) (acc ++ [39]) = R) := by
            unfold Hid; rw [← HG.out, HD.out, drop_at s (k + 1) h1, ht]; exact (quotS_tick f _ acc).symm
          clear HG
          go_wp2_with (at_builtin; refine wpList_append_own _ rfl _ _ 27 rfl w.heap.size 5 i0 (.int .u8 0) 1 1 Try.underlying27 hi hy0 hy1 hy2 rfl (by decide) _ _ _ rfl (hown.alloc _) ⟨wr.heap.size, 0, none⟩ 1 1 [.int .u8 39] rfl rfl ?c1x4 ?c2x4 ?c3x4 ?c4x4 ?c5x4 ?_)
          try case c1x4 =>
            intro j u hj
            cases j with
            | zero => simp at hj; subst hj; simp [Addr.add, World.cell?_alloc_at]
            | succ j => simp at hj
          case c2x4 => first | rfl | (intro u hu; simp at hu; subst hu; rfl)
          case c3x4 => unfold maxLen; omega
          case c4x4 => omega
          case c5x4 => (have := hb.size; first | omega | (rw [World.size_alloc]; omega) | (simp; omega))
          intro v' w3 hown3 hgr3 _
          have hb3 : Below w.heap.size w w3 := (hb.alloc hb.size _).grown hgr3 (by simp; have := hb.size; omega) (fun g hg => (hown.lt g hg).1)
          have hs' := bytes_snoc acc (39 : UInt8)
          rw [show (((39 : UInt8).toNat : Nat) : Int) = 39 from rfl] at hs'
          rw [← hs'] at hown3
          clear hs' hc
          have HG3 := Lib.hid hgr3
          clear hgr3
          go_wp2
          go_roundw
          case rel => exact ⟨k + 2, acc ++ [(39 : UInt8)], f, by go_num, by omega, by rw [List.length_append]; simp only [List.length_singleton]; omega, by omega, by rw [List.length_append]; exact hown3, hb3, HE.out⟩
          case measure => simp only [intOf]; omega
        · have HE : Hid (quotS 39 f (s.data.toList.drop (k + 1)) (acc ++ [92]) = R) := by
            unfold Hid; rw [← HG.out, HD.out]
            refine (quotS_back f _ acc ?_).symm
            intro e
            rcases Nat.lt_or_ge (k + 1) s.size with h1 | h1
            · rw [drop_at s (k + 1) h1, List.head?_cons, Option.some.injEq] at e
              exact ht ⟨h1, e⟩
            · rw [drop_end s (k + 1) h1] at e; cases e
          clear HG
          have ht2 : s.size ≤ k + 1 ∨ ∃ h : k + 1 < s.size, (s[k + 1]'h) ≠ 39 := by
            rcases Nat.lt_or_ge (k + 1) s.size with h1 | h1
            · exact Or.inr ⟨h1, fun e => ht ⟨h1, e⟩⟩
            · exact Or.inl h1
          clear ht
          rcases ht2 with ht2 | ⟨h1, ht2⟩
          · go_wp2_with (at_builtin; refine wpList_append_own _ rfl _ _ 27 rfl w.heap.size 5 i0 (.int .u8 0) 1 1 Try.underlying27 hi hy0 hy1 hy2 rfl (by decide) _ _ _ rfl (hown.alloc _) ⟨wr.heap.size, 0, none⟩ 1 1 [.int .u8 92] rfl rfl ?c1x5 ?c2x5 ?c3x5 ?c4x5 ?c5x5 ?_)
            try case c1x5 =>
              intro j u hj
              cases j with
              | zero => simp at hj; subst hj; simp [Addr.add, World.cell?_alloc_at]
              | succ j => simp at hj
            case c2x5 => first | rfl | (intro u hu; simp at hu; subst hu; rfl)
            case c3x5 => unfold maxLen; omega
            case c4x5 => omega
            case c5x5 => (have := hb.size; first | omega | (rw [World.size_alloc]; omega) | (simp; omega))
            intro v' w3 hown3 hgr3 _
            have hb3 : Below w.heap.size w w3 := (hb.alloc hb.size _).grown hgr3 (by simp; have := hb.size; omega) (fun g hg => (hown.lt g hg).1)
            have hs' := bytes_snoc acc (92 : UInt8)
            rw [show (((92 : UInt8).toNat : Nat) : Int) = 92 from rfl] at hs'
            rw [← hs'] at hown3
            clear hs' hc
            have HG3 := Lib.hid hgr3
            clear hgr3
            go_wp2
            go_roundw
            case rel => exact ⟨k + 1, acc ++ [(92 : UInt8)], f, by go_num, by omega, by rw [List.length_append]; simp only [List.length_singleton]; omega, by omega, by rw [List.length_append]; exact hown3, hb3, HE.out⟩
            case measure => simp only [intOf]; omega
          · obtain ⟨y, hy⟩ : ∃ y : UInt8, (s[k + 1]'h1) = y := ⟨_, rfl⟩
            rw [hy] at ht2
            obtain ⟨z, hz⟩ : ∃ z : Nat, y.toNat = z := ⟨_, rfl⟩
            have g3 : ((z : Int) == 39) = false := neI hz ht2
            clear ht2
            go_wp2_with (at_builtin; refine wpList_append_own _ rfl _ _ 27 rfl w.heap.size 5 i0 (.int .u8 0) 1 1 Try.underlying27 hi hy0 hy1 hy2 rfl (by decide) _ _ _ rfl (hown.alloc _) ⟨wr.heap.size, 0, none⟩ 1 1 [.int .u8 92] rfl rfl ?c1x6 ?c2x6 ?c3x6 ?c4x6 ?c5x6 ?_)
            try case c1x6 =>
              intro j u hj
              cases j with
              | zero => simp at hj; subst hj; simp [Addr.add, World.cell?_alloc_at]
              | succ j => simp at hj
            case c2x6 => first | rfl | (intro u hu; simp at hu; subst hu; rfl)
            case c3x6 => unfold maxLen; omega
            case c4x6 => omega
            case c5x6 => (have := hb.size; first | omega | (rw [World.size_alloc]; omega) | (simp; omega))
            intro v' w3 hown3 hgr3 _
            have hb3 : Below w.heap.size w w3 := (hb.alloc hb.size _).grown hgr3 (by simp; have := hb.size; omega) (fun g hg => (hown.lt g hg).1)
            have hs' := bytes_snoc acc (92 : UInt8)
            rw [show (((92 : UInt8).toNat : Nat) : Int) = 92 from rfl] at hs'
            rw [← hs'] at hown3
            clear hs' hc
            have HG3 := Lib.hid hgr3
            clear hgr3
            go_wp2
            go_roundw
            case rel => exact ⟨k + 1, acc ++ [(92 : UInt8)], f, by go_num, by omega, by rw [List.length_append]; simp only [List.length_singleton]; omega, by omega, by rw [List.length_append]; exact hown3, hb3, HE.out⟩
            case measure => simp only [intOf]; omega
      · have HE : Hid (quotS 39 f (s.data.toList.drop (k + 1)) (acc ++ [c]) = R) := by
          unfold Hid; rw [← HG.out, HD.out]; exact (quotS_plain 39 f c _ acc hq1 h92).symm
        clear HG
        obtain ⟨x, hx⟩ : ∃ x : Nat, c.toNat = x := ⟨_, rfl⟩
        have g1 : ((x : Int) == 39) = false := neI hx hq1
        have g2 : ((x : Int) == 92) = false := neI hx h92
        clear hq1 h92
        go_wp2_with (at_builtin; refine wpList_append_own _ rfl _ _ 27 rfl w.heap.size 5 i0 (.int .u8 0) 1 1 Try.underlying27 hi hy0 hy1 hy2 rfl (by decide) _ _ _ rfl (hown.alloc _) ⟨wr.heap.size, 0, none⟩ 1 1 [.int .u8 (x : Int)] rfl rfl ?c1x3 ?c2x3 ?c3x3 ?c4x3 ?c5x3 ?_)
        try case c1x3 =>
          intro j u hj
          cases j with
          | zero => simp at hj; subst hj; simp [Addr.add, World.cell?_alloc_at]
          | succ j => simp at hj
        case c2x3 => first | rfl | (intro u hu; simp at hu; subst hu; rfl)
        case c3x3 => unfold maxLen; omega
        case c4x3 => omega
        case c5x3 => (have := hb.size; first | omega | (rw [World.size_alloc]; omega) | (simp; omega))
        intro v' w3 hown3 hgr3 _
        have hb3 : Below w.heap.size w w3 := (hb.alloc hb.size _).grown hgr3 (by simp; have := hb.size; omega) (fun g hg => (hown.lt g hg).1)
        have hs' := bytes_snoc acc c
        rw [hx] at hs'
        rw [← hs'] at hown3
        clear hs' hc
        have HG3 := Lib.hid hgr3
        clear hgr3
        go_wp2
        go_roundw
        case rel => exact ⟨k + 1, acc ++ [c], f, by go_num, by omega, by rw [List.length_append]; simp only [List.length_singleton]; omega, by omega, by rw [List.length_append]; exact hown3, hb3, HE.out⟩
        case measure => simp only [intOf]; omega
    · have HE : Hid (R = none) := by
        unfold Hid; rw [← HG.out, drop_end s k (by omega)]; exact quotS_nil 39 f acc
      clear HG
      go_wp2
      go_ret3
      refine ⟨hb, ?_⟩
      rw [HE.out]
      rfl

end Go.Proofs.Ytkaododohnncnaa
