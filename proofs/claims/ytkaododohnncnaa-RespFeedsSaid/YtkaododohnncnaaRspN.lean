/-
  The walk of the document's own line, and of First. Conditions: the bytes lie in memory as a slice that reads as them.
-/
import Derived.Test.YtkaododohnncnaaRspW
namespace Go.Proofs.Ytkaododohnncnaa
open Go.RowKit
set_option maxHeartbeats 4000000 in
set_option maxRecDepth 100000 in
theorem rline_any (b o cap : Nat) (l : List UInt8) (w : World) (hl : l.length ≤ cap) (hcap : cap ≤ 9223372036854775807) (hb : b < w.heap.size) (hc : BytesAt w b o l) :
    Calls Try.prog 22 #[.slice (some ⟨b, o, none⟩) l.length cap] w (FndPost w (lineS l)) := by
  have HC := Lib.hid hc
  clear hc
  have hz : w.heap.size < w.heap.size + 1 := by omega
  cases hf : findL 10 l with
  | none =>
    have HF : Hid (findI 10 l 0 = -1) := by unfold Hid findI; rw [List.drop_zero, hf]
    have HS : Hid (lineS l = if 65536 < l.length then some (.inl (perrB ++ bigL)) else none) := by unfold Hid lineS; rw [hf]
    clear hf
    by_cases hbg : 65536 < l.length
    · have HS2 : Hid (lineS l = some (.inl (perrB ++ bigL))) := by unfold Hid; rw [HS.out, if_pos hbg]
      go_enter Try.func22, Try.ntmps22
      go_wp2_with fail
      refine (rfind_any 10 b o cap 0 l _ (by omega) (by omega) (by exact fun j hj => (World.cell?_alloc_lt w _ ⟨b, o + j, none⟩ hb).trans (HC.out j hj))).mono ?_
      rintro e w' ⟨rfl, rfl⟩
      rw [HF.out]
      go_wp2_with fail
      refine (rwrong_any bigL _ (by decide)).mono ?_
      rintro e w2 ⟨rfl, hb2⟩
      unfold fndV
      obtain ⟨hcc, hff⟩ := bcell hb2
      have hz2 := hb2.size
      simp only [World.size_alloc] at hcc hff hz2
      go_wp2
      refine bodyPost_ret (v := fndV 2 0 (.slice none 0 0) (perrB ++ bigL)) ?_ rfl ⟨below_cell4 (((Below.refl _ _).alloc (Nat.le_refl _) _).trans (hb2.mono (by simp))) (Nat.le_refl _) _ _ _ _, ?_⟩
      · simp [results, Try.results22, go_sem, fndV, hcc]
      · rw [HS2.out]
    · have HS2 : Hid (lineS l = none) := by unfold Hid; rw [HS.out, if_neg hbg]
      go_enter Try.func22, Try.ntmps22
      go_wp2_with fail
      refine (rfind_any 10 b o cap 0 l _ (by omega) (by omega) (by exact fun j hj => (World.cell?_alloc_lt w _ ⟨b, o + j, none⟩ hb).trans (HC.out j hj))).mono ?_
      rintro e w' ⟨rfl, rfl⟩
      rw [HF.out]
      go_wp2
      refine bodyPost_ret (v := fndV 0 0 (.slice none 0 0) []) ?_ rfl ⟨(Below.refl _ _).alloc (Nat.le_refl _) _, ?_⟩
      · simp [results, Try.results22, go_sem, fndV]
      · rw [HS2.out]
  | some i =>
    obtain ⟨k1, k2, _⟩ := findL_le hf
    have HF : Hid (findI 10 l 0 = (i : Int)) := by unfold Hid findI; rw [List.drop_zero, hf]; simp
    have HS := Lib.hid (lineS_eq hf)
    clear hf
    obtain ⟨S, hS⟩ : ∃ S : ByteArray, (⟨(lineT l i).toArray⟩ : ByteArray) = S := ⟨_, rfl⟩
    have hST : S.data.toList = lineT l i := by rw [← hS]
    have hSz : S.size ≤ i := by
      rw [← hS]
      show (lineT l i).toArray.size ≤ i
      rw [List.size_toArray]
      unfold lineT
      split <;> (rw [List.length_take]; omega)
    have HST := Lib.hid hST
    clear hST
    have hcv := fun ob : Obj => conv_part w b o o i cap l (l.take i) HC.out 0 (by omega) (by simp) (by omega) (w.alloc ob) (fun p hp => World.cell?_alloc_lt w ob p (by rw [hp]; exact hb))
    obtain ⟨i0, hi, hy0, hy1, hy2⟩ := info_parts info_str
    by_cases h13 : 0 < i ∧ l.getD (i - 1) 0 = 13
    · obtain ⟨hi0, h13⟩ := h13
      have hlt : lineT l i = l.take (i - 1) := by unfold lineT; rw [if_pos ⟨hi0, h13⟩]
      rw [hlt] at hS
      have hex := extract_take l i (i - 1) (by omega)
      rw [hS] at hex
      have hcell := HC.out (i - 1) (by omega)
      rw [h13, show (((13 : UInt8).toNat : Nat) : Int) = 13 from rfl] at hcell
      have hcell2 := fun ob : Obj => (World.cell?_alloc_lt w ob ⟨b, o + (i - 1), none⟩ hb).trans hcell
      have hsz : (⟨(l.take i).toArray⟩ : ByteArray).size = i := by show (l.take i).toArray.size = i; rw [List.size_toArray, List.length_take]; omega
      have hidx : ((i : Int) - 1).toNat = i - 1 := by omega
      have HLT := Lib.hid hlt
      clear hcell h13 hlt hS
      go_enter Try.func22, Try.ntmps22
      go_wp2_with fail
      refine (rfind_any 10 b o cap 0 l _ (by omega) (by omega) (by exact fun j hj => (World.cell?_alloc_lt w _ ⟨b, o + j, none⟩ hb).trans (HC.out j hj))).mono ?_
      rintro e w' ⟨rfl, rfl⟩
      rw [HF.out]
      go_wp2
      clear hcv
      go_loopw [5, 6, 7, 8, 9] (fun v j _ _ _ wr => ∃ (k f : Nat) (acc : List (List UInt8)), j = .int .i64 k ∧ k ≤ S.size ∧ S.size < f + k ∧ acc.length ≤ k ∧ wr.ownsRow (w.heap.size + 1) 9 1 v acc.length (acc.map strV) ∧ Below (w.heap.size + 1) (w.alloc (.cells #[.int .i64 0, .int .i64 0, .slice none 0 0, .string ⟨#[]⟩] 51)) wr ∧ Hid (wordsGo f (S.data.toList.drop k) acc = wordsGo (i + 1) (lineT l i) [])) (fun _ j _ _ _ _ => S.size - (intOf j).toNat)
      case atStart => exact ⟨0, i + 1, [], rfl, by omega, by omega, by simp, ⟨rfl, .inl ⟨rfl, rfl⟩⟩, Below.refl _ _, by unfold Hid; rw [List.drop_zero, HST.out]⟩
      case round =>
        obtain ⟨k, f, acc, rfl, hk, hf, hak, hown, hbr, HG⟩ := hrel
        have hzr := hbr.size
        rw [World.size_alloc] at hzr
        have hwr : w.heap.size < wr.heap.size := by omega
        obtain ⟨hcr, hfr⟩ : (∀ b o, b < w.heap.size + 1 → wr.cell? ⟨b, o, none⟩ = (w.alloc (.cells #[.int .i64 0, .int .i64 0, .slice none 0 0, .string ⟨#[]⟩] 51)).cell? ⟨b, o, none⟩) ∧ (∀ b o, b < w.heap.size + 1 → wr.frozen? ⟨b, o, none⟩ = (w.alloc (.cells #[.int .i64 0, .int .i64 0, .slice none 0 0, .string ⟨#[]⟩] 51)).frozen? ⟨b, o, none⟩) :=
          ⟨fun b o h => hbr.cell (p := ⟨b, o, none⟩) h, fun b o h => hbr.frozen (p := ⟨b, o, none⟩) h⟩
        have hbw : Below w.heap.size w wr := ((Below.refl _ _).alloc (Nat.le_refl _) _).trans (hbr.mono (by omega))
        by_cases hlt : k < S.size
        · have hd := drop_at S k hlt
          obtain ⟨c, hc⟩ : ∃ c : UInt8, (S[k]'hlt) = c := ⟨_, rfl⟩
          rw [hc] at hd
          have HD := Lib.hid hd
          clear hd
          obtain ⟨f, rfl⟩ : ∃ g, f = g + 1 := ⟨f - 1, by omega⟩
          cases hbl : blankS c with
          | true =>
            have HE : Hid (wordsGo f (S.data.toList.drop (k + 1)) acc = wordsGo (i + 1) (lineT l i) []) := by
              unfold Hid; rw [← HG.out, HD.out]; exact (wordsGo_blank f c _ acc hbl).symm
            have hbl2 := (blankS_iff c).1 hbl
            clear HG hbl
            go_wp2_with (go_at_call 30; refine (rblank_yes _ _ hbl2).mono ?_; rintro e w' ⟨rfl, rfl⟩)
            go_roundw
            case rel => exact ⟨k + 1, f, acc, by go_num, by omega, by omega, by omega, hown, hbr, HE.out⟩
            case measure => simp only [intOf]; omega
          | false =>
            have hbl2 : ¬ ((9 ≤ (c.toNat : Int) ∧ (c.toNat : Int) ≤ 13) ∨ (c.toNat : Int) = 32) := fun e => by have := (blankS_iff c).2 e; rw [hbl] at this; cases this
            have hlen : (S.data.toList.drop k).length = S.size - k := by rw [List.length_drop, Array.length_toList]; rfl
            have hfu : wordGo ((S.data.toList.drop k).length + 1) (S.data.toList.drop k) [] = wordGo (S.size + 1) (S.data.toList.drop k) [] :=
              wordGo_fuel _ _ _ _ _ (Nat.le_refl _) (by omega) (by rw [hlen]; omega)
            have HFU := Lib.hid hfu
            have HLN := Lib.hid hlen
            have HB := Lib.hid hbl2
            clear hfu hlen hbl2
            have HWD := Lib.hid (rword_any S k wr (by omega) hk)
            cases hw : wordGo (S.size + 1) (S.data.toList.drop k) [] with
            | none =>
              have HE : Hid (lineS l = some (.inl (perrB ++ unbL))) := by
                unfold Hid; rw [HS.out, ← HG.out, HD.out, wordsGo_bad f c _ acc hbl (by rw [← HD.out]; exact HFU.out.trans hw)]
              rw [hw] at HWD
              clear HG hw hbl
              go_wp2_with (first | (go_at_call 30; refine (rblank_no _ _ HB.out).mono ?_; rintro e w' ⟨rfl, rfl⟩) | fail)
              refine HWD.out.mono ?_
              rintro e w1 ⟨rfl, hb1⟩
              simp only [wordV]
              go_wp2_with fail
              refine (rwrong_any unbL _ (by decide)).mono ?_
              rintro e w3 ⟨rfl, hb3⟩
              unfold fndV
              have hb13 : Below wr.heap.size wr w3 := hb1.trans (hb3.mono hb1.size)
              obtain ⟨hc3, hf3⟩ := bcell hb13
              have hz3 := hb13.size
              have hw3 : w.heap.size < w3.heap.size := by omega
              have hbase3 : Below w.heap.size w w3 := hbw.trans (hb13.mono (by omega))
              go_wp2
              refine bodyPost_ret (v := fndV 2 0 (.slice none 0 0) (perrB ++ unbL)) ?_ rfl ⟨below_cell4 hbase3 (Nat.le_refl _) _ _ _ _, ?_⟩
              · simp [results, Try.results22, go_sem, fndV, hc3, hcr, hwr]
              · rw [HE.out]
            | some pr =>
              obtain ⟨t, r'⟩ := pr
              obtain ⟨j, j1, hr', j2, j3⟩ := wordGo_suffix _ _ _ _ _ hw
              rw [HLN.out] at j1
              have j2 := j2 c _ HD.out hbl
              rw [List.drop_drop] at hr'
              have hnx : S.size - r'.length = k + j := by rw [hr']; exact drop_len S _ (by omega)
              have HE : Hid (wordsGo f (S.data.toList.drop (k + j)) (acc ++ [t]) = wordsGo (i + 1) (lineT l i) []) := by
                unfold Hid; rw [← HG.out, HD.out, ← hr']; exact (wordsGo_on f c _ t r' acc hbl (by rw [← HD.out]; exact HFU.out.trans hw)).symm
              rw [hw] at HWD
              have HNX := Lib.hid hnx
              clear HG hw hbl hnx hr'
              go_wp2_with (first | (go_at_call 30; refine (rblank_no _ _ HB.out).mono ?_; rintro e w' ⟨rfl, rfl⟩) | fail)
              refine HWD.out.mono ?_
              rintro e w1 ⟨rfl, hb1⟩
              simp only [wordV]
              rw [HNX.out]
              have hown1 := ownsRow_below hown hb1
              have hz1 := hb1.size
              go_wp2_with (at_builtin; refine wpList_append_own _ rfl _ _ 39 rfl (w.heap.size + 1) 9 i0 (.string ⟨#[]⟩) 1 16 Try.underlying39 hi hy0 hy1 hy2 rfl (by decide) _ _ _ rfl (hown1.alloc _) ⟨w1.heap.size, 0, none⟩ 1 1 [strV t] rfl rfl ?c1a ?c2a ?c3a ?c4a ?c5a ?_)
              case c1a =>
                intro j u hj
                cases j with
                | zero => simp at hj; subst hj; simp [Addr.add, strV, World.cell?_alloc_at]
                | succ j => simp at hj
              case c2a => intro u hu; simp at hu; subst hu; rfl
              case c3a => unfold maxLen; omega
              case c4a => omega
              case c5a => rw [World.size_alloc]; omega
              intro v' w3 hown3 hgr3 _
              have hbr3 : Below (w.heap.size + 1) (w.alloc (.cells #[.int .i64 0, .int .i64 0, .slice none 0 0, .string ⟨#[]⟩] 51)) w3 := by
                have h2 : Below (w.heap.size + 1) (w.alloc (.cells #[.int .i64 0, .int .i64 0, .slice none 0 0, .string ⟨#[]⟩] 51)) w1 := hbr.trans (hb1.mono (by omega))
                exact ((h2.alloc (by omega) _).grown hgr3 (by rw [World.size_alloc]; omega) (fun g hg => (hown.lt g hg).1))
              have hs' : (acc ++ [t]).map strV = acc.map strV ++ [strV t] := by simp
              rw [← hs'] at hown3
              clear hs' hgr3 hc
              go_wp2
              go_roundw
              case rel => exact ⟨k + j, f, acc ++ [t], by go_num, by omega, by omega, by rw [List.length_append]; simp only [List.length_singleton]; omega, by rw [List.length_append]; exact hown3, hbr3, HE.out⟩
              case measure => simp only [intOf]; omega
        · have HE0 : Hid (wordsGo (i + 1) (lineT l i) [] = some acc) := by
            obtain ⟨f, rfl⟩ : ∃ g, f = g + 1 := ⟨f - 1, by omega⟩
            unfold Hid; rw [← HG.out, drop_end S k (by omega)]; rfl
          clear HG
          obtain ⟨A, cc, rfl⟩ := ownsRow_form hown
          by_cases hmany : 1024 < acc.length
          · have HE : Hid (lineS l = some (.inl (perrB ++ badM))) := by unfold Hid; rw [HS.out, HE0.out]; simp only; rw [if_pos hmany]
            go_wp2_with fail
            refine (rwrong_any badM _ (by decide)).mono ?_
            rintro e w3 ⟨rfl, hb3⟩
            unfold fndV
            obtain ⟨hc3, hf3⟩ := bcell hb3
            have hz3 := hb3.size
            have hw3 : w.heap.size < w3.heap.size := by omega
            have hbase3 : Below w.heap.size w w3 := hbw.trans (hb3.mono (by omega))
            go_wp2
            refine bodyPost_ret (v := fndV 2 0 (.slice none 0 0) (perrB ++ badM)) ?_ rfl ⟨below_cell4 hbase3 (Nat.le_refl _) _ _ _ _, ?_⟩
            · simp [results, Try.results22, go_sem, fndV, hc3, hcr, hwr]
            · rw [HE.out]
          · have HE : Hid (lineS l = some (.inr (acc, i + 1))) := by unfold Hid; rw [HS.out, HE0.out]; simp only; rw [if_neg hmany]
            go_wp2
            refine bodyPost_ret (v := fndV 1 ((i + 1 : Nat) : Int) (.slice A acc.length cc) []) ?_ rfl ⟨below_cell4 hbw (Nat.le_refl _) _ _ _ _, ?_⟩
            · simp [results, Try.results22, go_sem, fndV, hcr]
            · rw [HE.out]
              exact ⟨_, rfl, ownsRow_base (ownsRow_set (ownsRow_set (ownsRow_set (ownsRow_set hown _ (by omega) _ _) _ (by omega) _ _) _ (by omega) _ _) _ (by omega) _ _) (by omega)⟩
    · have hlt : lineT l i = l.take i := by unfold lineT; rw [if_neg h13]
      rw [hlt] at hS
      have HLT := Lib.hid hlt
      have h13b : i = 0 ∨ ∃ h : 0 < i, l.getD (i - 1) 0 ≠ 13 := by
        rcases Nat.eq_zero_or_pos i with h0 | h0
        · exact Or.inl h0
        · exact Or.inr ⟨h0, fun e => h13 ⟨h0, e⟩⟩
      clear hlt h13
      have hgo : Calls Try.prog 22 #[.slice (some ⟨b, o, none⟩) l.length cap] w (FndPost w (lineS l)) := by
        rcases h13b with h0 | ⟨hi0, h13⟩
        · have hib : ((i : Int)) ≤ 0 := by omega
          clear h0
          go_enter Try.func22, Try.ntmps22
          go_wp2_with fail
          refine (rfind_any 10 b o cap 0 l _ (by omega) (by omega) (by exact fun j hj => (World.cell?_alloc_lt w _ ⟨b, o + j, none⟩ hb).trans (HC.out j hj))).mono ?_
          rintro e w' ⟨rfl, rfl⟩
          rw [HF.out]
          go_wp2
          clear hcv
          go_loopw [5, 6, 7, 8, 9] (fun v j _ _ _ wr => ∃ (k f : Nat) (acc : List (List UInt8)), j = .int .i64 k ∧ k ≤ S.size ∧ S.size < f + k ∧ acc.length ≤ k ∧ wr.ownsRow (w.heap.size + 1) 9 1 v acc.length (acc.map strV) ∧ Below (w.heap.size + 1) (w.alloc (.cells #[.int .i64 0, .int .i64 0, .slice none 0 0, .string ⟨#[]⟩] 51)) wr ∧ Hid (wordsGo f (S.data.toList.drop k) acc = wordsGo (i + 1) (lineT l i) [])) (fun _ j _ _ _ _ => S.size - (intOf j).toNat)
          case atStart => exact ⟨0, i + 1, [], rfl, by omega, by omega, by simp, ⟨rfl, .inl ⟨rfl, rfl⟩⟩, Below.refl _ _, by unfold Hid; rw [List.drop_zero, HST.out]⟩
          case round =>
            obtain ⟨k, f, acc, rfl, hk, hf, hak, hown, hbr, HG⟩ := hrel
            have hzr := hbr.size
            rw [World.size_alloc] at hzr
            have hwr : w.heap.size < wr.heap.size := by omega
            obtain ⟨hcr, hfr⟩ : (∀ b o, b < w.heap.size + 1 → wr.cell? ⟨b, o, none⟩ = (w.alloc (.cells #[.int .i64 0, .int .i64 0, .slice none 0 0, .string ⟨#[]⟩] 51)).cell? ⟨b, o, none⟩) ∧ (∀ b o, b < w.heap.size + 1 → wr.frozen? ⟨b, o, none⟩ = (w.alloc (.cells #[.int .i64 0, .int .i64 0, .slice none 0 0, .string ⟨#[]⟩] 51)).frozen? ⟨b, o, none⟩) :=
              ⟨fun b o h => hbr.cell (p := ⟨b, o, none⟩) h, fun b o h => hbr.frozen (p := ⟨b, o, none⟩) h⟩
            have hbw : Below w.heap.size w wr := ((Below.refl _ _).alloc (Nat.le_refl _) _).trans (hbr.mono (by omega))
            by_cases hlt : k < S.size
            · exfalso; omega
            · have HE0 : Hid (wordsGo (i + 1) (lineT l i) [] = some acc) := by
                obtain ⟨f, rfl⟩ : ∃ g, f = g + 1 := ⟨f - 1, by omega⟩
                unfold Hid; rw [← HG.out, drop_end S k (by omega)]; rfl
              clear HG
              obtain ⟨A, cc, rfl⟩ := ownsRow_form hown
              have hmany : ¬ 1024 < acc.length := by omega
              have HE : Hid (lineS l = some (.inr (acc, i + 1))) := by unfold Hid; rw [HS.out, HE0.out]; simp only; rw [if_neg hmany]
              go_wp2
              refine bodyPost_ret (v := fndV 1 ((i + 1 : Nat) : Int) (.slice A acc.length cc) []) ?_ rfl ⟨below_cell4 hbw (Nat.le_refl _) _ _ _ _, ?_⟩
              · simp [results, Try.results22, go_sem, fndV, hcr]
              · rw [HE.out]
                exact ⟨_, rfl, ownsRow_base (ownsRow_set (ownsRow_set (ownsRow_set (ownsRow_set hown _ (by omega) _ _) _ (by omega) _ _) _ (by omega) _ _) _ (by omega) _ _) (by omega)⟩
        · obtain ⟨y, hy⟩ : ∃ y : UInt8, l.getD (i - 1) 0 = y := ⟨_, rfl⟩
          rw [hy] at h13
          have hcell := HC.out (i - 1) (by omega)
          rw [hy] at hcell
          obtain ⟨z, hz'⟩ : ∃ z : Nat, y.toNat = z := ⟨_, rfl⟩
          have g13 : ((z : Int) == 13) = false := neI hz' h13
          rw [hz'] at hcell
          have hcell2 := fun ob : Obj => (World.cell?_alloc_lt w ob ⟨b, o + (i - 1), none⟩ hb).trans hcell
          have hidx : ((i : Int) - 1).toNat = i - 1 := by omega
          clear hcell h13 hy hz'
          go_enter Try.func22, Try.ntmps22
          go_wp2_with fail
          refine (rfind_any 10 b o cap 0 l _ (by omega) (by omega) (by exact fun j hj => (World.cell?_alloc_lt w _ ⟨b, o + j, none⟩ hb).trans (HC.out j hj))).mono ?_
          rintro e w' ⟨rfl, rfl⟩
          rw [HF.out]
          go_wp2
          clear hcv
          go_loopw [5, 6, 7, 8, 9] (fun v j _ _ _ wr => ∃ (k f : Nat) (acc : List (List UInt8)), j = .int .i64 k ∧ k ≤ S.size ∧ S.size < f + k ∧ acc.length ≤ k ∧ wr.ownsRow (w.heap.size + 1) 9 1 v acc.length (acc.map strV) ∧ Below (w.heap.size + 1) (w.alloc (.cells #[.int .i64 0, .int .i64 0, .slice none 0 0, .string ⟨#[]⟩] 51)) wr ∧ Hid (wordsGo f (S.data.toList.drop k) acc = wordsGo (i + 1) (lineT l i) [])) (fun _ j _ _ _ _ => S.size - (intOf j).toNat)
          case atStart => exact ⟨0, i + 1, [], rfl, by omega, by omega, by simp, ⟨rfl, .inl ⟨rfl, rfl⟩⟩, Below.refl _ _, by unfold Hid; rw [List.drop_zero, HST.out]⟩
          case round =>
            obtain ⟨k, f, acc, rfl, hk, hf, hak, hown, hbr, HG⟩ := hrel
            have hzr := hbr.size
            rw [World.size_alloc] at hzr
            have hwr : w.heap.size < wr.heap.size := by omega
            obtain ⟨hcr, hfr⟩ : (∀ b o, b < w.heap.size + 1 → wr.cell? ⟨b, o, none⟩ = (w.alloc (.cells #[.int .i64 0, .int .i64 0, .slice none 0 0, .string ⟨#[]⟩] 51)).cell? ⟨b, o, none⟩) ∧ (∀ b o, b < w.heap.size + 1 → wr.frozen? ⟨b, o, none⟩ = (w.alloc (.cells #[.int .i64 0, .int .i64 0, .slice none 0 0, .string ⟨#[]⟩] 51)).frozen? ⟨b, o, none⟩) :=
              ⟨fun b o h => hbr.cell (p := ⟨b, o, none⟩) h, fun b o h => hbr.frozen (p := ⟨b, o, none⟩) h⟩
            have hbw : Below w.heap.size w wr := ((Below.refl _ _).alloc (Nat.le_refl _) _).trans (hbr.mono (by omega))
            by_cases hlt : k < S.size
            · have hd := drop_at S k hlt
              obtain ⟨c, hc⟩ : ∃ c : UInt8, (S[k]'hlt) = c := ⟨_, rfl⟩
              rw [hc] at hd
              have HD := Lib.hid hd
              clear hd
              obtain ⟨f, rfl⟩ : ∃ g, f = g + 1 := ⟨f - 1, by omega⟩
              cases hbl : blankS c with
              | true =>
                have HE : Hid (wordsGo f (S.data.toList.drop (k + 1)) acc = wordsGo (i + 1) (lineT l i) []) := by
                  unfold Hid; rw [← HG.out, HD.out]; exact (wordsGo_blank f c _ acc hbl).symm
                have hbl2 := (blankS_iff c).1 hbl
                clear HG hbl
                go_wp2_with (go_at_call 30; refine (rblank_yes _ _ hbl2).mono ?_; rintro e w' ⟨rfl, rfl⟩)
                go_roundw
                case rel => exact ⟨k + 1, f, acc, by go_num, by omega, by omega, by omega, hown, hbr, HE.out⟩
                case measure => simp only [intOf]; omega
              | false =>
                have hbl2 : ¬ ((9 ≤ (c.toNat : Int) ∧ (c.toNat : Int) ≤ 13) ∨ (c.toNat : Int) = 32) := fun e => by have := (blankS_iff c).2 e; rw [hbl] at this; cases this
                have hlen : (S.data.toList.drop k).length = S.size - k := by rw [List.length_drop, Array.length_toList]; rfl
                have hfu : wordGo ((S.data.toList.drop k).length + 1) (S.data.toList.drop k) [] = wordGo (S.size + 1) (S.data.toList.drop k) [] :=
                  wordGo_fuel _ _ _ _ _ (Nat.le_refl _) (by omega) (by rw [hlen]; omega)
                have HFU := Lib.hid hfu
                have HLN := Lib.hid hlen
                have HB := Lib.hid hbl2
                clear hfu hlen hbl2
                have HWD := Lib.hid (rword_any S k wr (by omega) hk)
                cases hw : wordGo (S.size + 1) (S.data.toList.drop k) [] with
                | none =>
                  have HE : Hid (lineS l = some (.inl (perrB ++ unbL))) := by
                    unfold Hid; rw [HS.out, ← HG.out, HD.out, wordsGo_bad f c _ acc hbl (by rw [← HD.out]; exact HFU.out.trans hw)]
                  rw [hw] at HWD
                  clear HG hw hbl
                  go_wp2_with (first | (go_at_call 30; refine (rblank_no _ _ HB.out).mono ?_; rintro e w' ⟨rfl, rfl⟩) | fail)
                  refine HWD.out.mono ?_
                  rintro e w1 ⟨rfl, hb1⟩
                  simp only [wordV]
                  go_wp2_with fail
                  refine (rwrong_any unbL _ (by decide)).mono ?_
                  rintro e w3 ⟨rfl, hb3⟩
                  unfold fndV
                  have hb13 : Below wr.heap.size wr w3 := hb1.trans (hb3.mono hb1.size)
                  obtain ⟨hc3, hf3⟩ := bcell hb13
                  have hz3 := hb13.size
                  have hw3 : w.heap.size < w3.heap.size := by omega
                  have hbase3 : Below w.heap.size w w3 := hbw.trans (hb13.mono (by omega))
                  go_wp2
                  refine bodyPost_ret (v := fndV 2 0 (.slice none 0 0) (perrB ++ unbL)) ?_ rfl ⟨below_cell4 hbase3 (Nat.le_refl _) _ _ _ _, ?_⟩
                  · simp [results, Try.results22, go_sem, fndV, hc3, hcr, hwr]
                  · rw [HE.out]
                | some pr =>
                  obtain ⟨t, r'⟩ := pr
                  obtain ⟨j, j1, hr', j2, j3⟩ := wordGo_suffix _ _ _ _ _ hw
                  rw [HLN.out] at j1
                  have j2 := j2 c _ HD.out hbl
                  rw [List.drop_drop] at hr'
                  have hnx : S.size - r'.length = k + j := by rw [hr']; exact drop_len S _ (by omega)
                  have HE : Hid (wordsGo f (S.data.toList.drop (k + j)) (acc ++ [t]) = wordsGo (i + 1) (lineT l i) []) := by
                    unfold Hid; rw [← HG.out, HD.out, ← hr']; exact (wordsGo_on f c _ t r' acc hbl (by rw [← HD.out]; exact HFU.out.trans hw)).symm
                  rw [hw] at HWD
                  have HNX := Lib.hid hnx
                  clear HG hw hbl hnx hr'
                  go_wp2_with (first | (go_at_call 30; refine (rblank_no _ _ HB.out).mono ?_; rintro e w' ⟨rfl, rfl⟩) | fail)
                  refine HWD.out.mono ?_
                  rintro e w1 ⟨rfl, hb1⟩
                  simp only [wordV]
                  rw [HNX.out]
                  have hown1 := ownsRow_below hown hb1
                  have hz1 := hb1.size
                  go_wp2_with (at_builtin; refine wpList_append_own _ rfl _ _ 39 rfl (w.heap.size + 1) 9 i0 (.string ⟨#[]⟩) 1 16 Try.underlying39 hi hy0 hy1 hy2 rfl (by decide) _ _ _ rfl (hown1.alloc _) ⟨w1.heap.size, 0, none⟩ 1 1 [strV t] rfl rfl ?c1d ?c2d ?c3d ?c4d ?c5d ?_)
                  case c1d =>
                    intro j u hj
                    cases j with
                    | zero => simp at hj; subst hj; simp [Addr.add, strV, World.cell?_alloc_at]
                    | succ j => simp at hj
                  case c2d => intro u hu; simp at hu; subst hu; rfl
                  case c3d => unfold maxLen; omega
                  case c4d => omega
                  case c5d => rw [World.size_alloc]; omega
                  intro v' w3 hown3 hgr3 _
                  have hbr3 : Below (w.heap.size + 1) (w.alloc (.cells #[.int .i64 0, .int .i64 0, .slice none 0 0, .string ⟨#[]⟩] 51)) w3 := by
                    have h2 : Below (w.heap.size + 1) (w.alloc (.cells #[.int .i64 0, .int .i64 0, .slice none 0 0, .string ⟨#[]⟩] 51)) w1 := hbr.trans (hb1.mono (by omega))
                    exact ((h2.alloc (by omega) _).grown hgr3 (by rw [World.size_alloc]; omega) (fun g hg => (hown.lt g hg).1))
                  have hs' : (acc ++ [t]).map strV = acc.map strV ++ [strV t] := by simp
                  rw [← hs'] at hown3
                  clear hs' hgr3 hc
                  go_wp2
                  go_roundw
                  case rel => exact ⟨k + j, f, acc ++ [t], by go_num, by omega, by omega, by rw [List.length_append]; simp only [List.length_singleton]; omega, by rw [List.length_append]; exact hown3, hbr3, HE.out⟩
                  case measure => simp only [intOf]; omega
            · have HE0 : Hid (wordsGo (i + 1) (lineT l i) [] = some acc) := by
                obtain ⟨f, rfl⟩ : ∃ g, f = g + 1 := ⟨f - 1, by omega⟩
                unfold Hid; rw [← HG.out, drop_end S k (by omega)]; rfl
              clear HG
              obtain ⟨A, cc, rfl⟩ := ownsRow_form hown
              by_cases hmany : 1024 < acc.length
              · have HE : Hid (lineS l = some (.inl (perrB ++ badM))) := by unfold Hid; rw [HS.out, HE0.out]; simp only; rw [if_pos hmany]
                go_wp2_with fail
                refine (rwrong_any badM _ (by decide)).mono ?_
                rintro e w3 ⟨rfl, hb3⟩
                unfold fndV
                obtain ⟨hc3, hf3⟩ := bcell hb3
                have hz3 := hb3.size
                have hw3 : w.heap.size < w3.heap.size := by omega
                have hbase3 : Below w.heap.size w w3 := hbw.trans (hb3.mono (by omega))
                go_wp2
                refine bodyPost_ret (v := fndV 2 0 (.slice none 0 0) (perrB ++ badM)) ?_ rfl ⟨below_cell4 hbase3 (Nat.le_refl _) _ _ _ _, ?_⟩
                · simp [results, Try.results22, go_sem, fndV, hc3, hcr, hwr]
                · rw [HE.out]
              · have HE : Hid (lineS l = some (.inr (acc, i + 1))) := by unfold Hid; rw [HS.out, HE0.out]; simp only; rw [if_neg hmany]
                go_wp2
                refine bodyPost_ret (v := fndV 1 ((i + 1 : Nat) : Int) (.slice A acc.length cc) []) ?_ rfl ⟨below_cell4 hbw (Nat.le_refl _) _ _ _ _, ?_⟩
                · simp [results, Try.results22, go_sem, fndV, hcr]
                · rw [HE.out]
                  exact ⟨_, rfl, ownsRow_base (ownsRow_set (ownsRow_set (ownsRow_set (ownsRow_set hown _ (by omega) _ _) _ (by omega) _ _) _ (by omega) _ _) _ (by omega) _ _) (by omega)⟩
      exact hgo

end Go.Proofs.Ytkaododohnncnaa
