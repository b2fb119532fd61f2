/-
  The walks of both packages' All, at any bytes. Conditions: the bytes lie in memory.
-/
import Derived.Test.YtbldahkgilkclaaDoorRzT
namespace Go.Proofs.YtbldahkgilkclaaDoor
open Go.RowKit

/-- What All tells: a row of replies, how many bytes, an error. -/
def AllPost (w : World) (bs : List UInt8) (e : Ending) (w' : World) : Prop :=
  Below w.heap.size w w' ∧ ∃ (A : Option Addr) (c : Nat), e = .returned (.tuple #[.slice A (allS bs (bs.length + 1) 0).1.length c, .int .i64 (allS bs (bs.length + 1) 0).2.1, .int .i64 (allS bs (bs.length + 1) 0).2.2]) ∧
    RepAt w' (fun g => w.heap.size ≤ g) (.node 6 [] 0 (allS bs (bs.length + 1) 0).1) [.int .i64 6, .string ⟨#[]⟩, .int .i64 0, .slice A (allS bs (bs.length + 1) 0).1.length c]

set_option maxRecDepth 100000 in
set_option maxHeartbeats 16000000 in
theorem yall_some (b o cap : Nat) (bs : List UInt8) (w : World) (h6 : 6 ≤ w.heap.size) (hb : b < w.heap.size) (hat : BytesAt w b o bs) (hcl : bs.length ≤ cap) (hcm : cap ≤ 9223372036854775807) (hbig : bs.length ≤ 100000000) (hT : Tabs8 w) :
    Calls Tryd.prog 14 #[.slice (some ⟨b, o, none⟩) bs.length cap] w (AllPost w bs) := by
  obtain ⟨i0, hi0, hy0, hy1, hy2⟩ := info_parts info_reply
  obtain ⟨RS, hRS⟩ : ∃ R, allS bs (bs.length + 1) 0 = R := ⟨_, rfl⟩
  have HRS := Lib.hid hRS
  unfold AllPost
  rw [hRS]
  have HAT := Lib.hid hat
  have HTT := Lib.hid hT
  clear hRS hat hT
  obtain ⟨N, hN⟩ : ∃ N, w.heap.size = N + 1 := ⟨w.heap.size - 1, by omega⟩
  go_enter Tryd.func14, Tryd.ntmps14
  go_wp2
  go_loopw [5, 6] (fun lv av wr => ∃ (j F : Nat) (rows : List (List Value)) (xs : List RT), av = .int .i64 j ∧ j ≤ bs.length ∧ bs.length - j < F ∧ xs.length ≤ j ∧ AllK bs F j xs ∧ wr.ownsRow (N + 1) 25 4 lv rows.length rows.flatten ∧ (∀ r ∈ rows, r.length = 4) ∧ Kids wr N lv xs rows ∧ Below w.heap.size w wr) (fun _ av _ => bs.length - (intOf av).toNat)
  case atStart => exact ⟨0, bs.length + 1, [], [], rfl, Nat.zero_le _, by omega, Nat.le_refl _, AllK.start bs, ⟨rfl, .inl ⟨rfl, rfl⟩⟩, by simp, ⟨rfl, by simp⟩, Below.refl _ _⟩
  case round =>
    obtain ⟨j, F, rows, xs, rfl, hj, hF, hxl, hk, hown, h4, hkd, hbw⟩ := hrel
    obtain ⟨F, rfl⟩ : ∃ G, F = G + 1 := ⟨F - 1, by omega⟩
    have HK := Lib.hid hk
    have H4 := Lib.hid h4
    have HKD := Lib.hid hkd
    have HB := Lib.hid hbw
    have hlen : (bs.drop j).length = bs.length - j := List.length_drop
    have hat' : BytesAt wr b (o + j) (bs.drop j) := (HAT.out.below HB.out hb).cut j
    have hrl := hkd.1
    clear hk h4 hkd hbw
    by_cases hcj : cap = j
    · have hj2 : j = bs.length := by omega
      have hA' : 0 < (bs.drop j).length → (some ⟨b, o, none⟩ : Option Addr) = some ⟨b, o + j, none⟩ := fun q => by omega
      have HD := Lib.hid (ydecode_any _ b (o + j) (cap - j) (bs.drop j) wr (Nat.le_trans h6 HB.out.size) hA' (fun _ => Nat.lt_of_lt_of_le hb HB.out.size) hat' (by omega) (by omega) (HTT.out.below HB.out h6))
      rw [hlen] at HD
      rw [show bs.length - j = 0 from by omega, show cap - j = 0 from by omega] at HD
      clear hA' hat'
      obtain ⟨tr, h1⟩ : ∃ t, (decS (bs.drop j)).1 = t := ⟨_, rfl⟩
      obtain ⟨p, h2⟩ : ∃ t, (decS (bs.drop j)).2.1 = t := ⟨_, rfl⟩
      obtain ⟨f, h3⟩ : ∃ t, (decS (bs.drop j)).2.2 = t := ⟨_, rfl⟩
      have hpl := decS_pl (bs.drop j)
      have hpp := decS_pos (bs.drop j)
      have HSH := Lib.hid (fun q => HK.out.short q)
      have HBD := Lib.hid (fun q q2 => HK.out.bad q q2)
      have HMR := Lib.hid (fun q => HK.out.more q)
      rw [h3] at HSH HBD HMR hpp HD
      rw [h2] at HBD HMR hpl hpp HD
      rw [h1] at HMR HD
      rw [hlen] at hpl
      clear h1 h2 h3
      obtain ⟨Al, cl, rfl⟩ := ownsRow_form hown
      have HOWN := Lib.hid hown
      have hzb := HB.out.size
      clear hown
      go_wp2_with fail
      refine HD.out.mono ?_
      rintro e w1 ⟨hb1, K, T, z, A2, l2, c2, rfl, hx⟩
      have HX := Lib.hid hx
      have hz1 := hb1.size
      obtain ⟨wx, hwx⟩ : ∃ wx, w1.alloc (.cells #[.int .i64 K, .string T, .int .i64 z, .slice A2 l2 c2] 25) = wx := ⟨_, rfl⟩
      have hbx : Below w1.heap.size w1 wx := by rw [← hwx]; exact (Below.refl _ _).alloc (Nat.le_refl _) _
      have hzx : wx.heap.size = w1.heap.size + 1 := by rw [← hwx]; simp
      have hnx : wx.heap[w1.heap.size]? = some (.cells #[.int .i64 K, .string T, .int .i64 z, .slice A2 l2 c2] 25) := by rw [← hwx]; exact World.alloc_heap_new w1 _
      have hbrx : Below wr.heap.size wr wx := hb1.trans (hbx.mono hb1.size)
      have HBRX := Lib.hid hbrx
      have HBX := Lib.hid (HB.out.trans (hbrx.mono HB.out.size))
      have HWX := Lib.hid hwx
      have HX2 := Lib.hid (HX.out.keep (w' := wx) (Q := fun g => wr.heap.size ≤ g) hbx.size (fun _ h _ => h) (fun g _ h => hbx.block g h))
      have HOWNX := Lib.hid (ownsRow_below HOWN.out hbrx)
      have HKX : Hid (Kids wx N (.slice Al rows.length cl) xs rows) := ⟨HKD.out.1, fun jj x hx => by obtain ⟨cs, g1, g2⟩ := HKD.out.2 jj x hx; exact ⟨cs, g1, g2.keep hbrx.size (fun _ h _ => h) (fun g _ h => hbrx.block g h)⟩⟩
      have u0 : wx.cell? ⟨w1.heap.size, 0, none⟩ = some (.int .i64 K) := cell_in hnx
      have u1 : wx.cell? ⟨w1.heap.size, 1, none⟩ = some (.string T) := cell_in hnx
      have u2 : wx.cell? ⟨w1.heap.size, 2, none⟩ = some (.int .i64 z) := cell_in hnx
      have u3 : wx.cell? ⟨w1.heap.size, 3, none⟩ = some (.slice A2 l2 c2) := cell_in hnx
      clear hb1 hx hwx hbx hnx hbrx HD
      by_cases h31 : f = 31
      · have HRE := Lib.hid (HRS.out.symm.trans (HSH.out h31))
        subst h31
        have HTREE := Lib.hid (rows_tree HOWNX.out H4.out HKX.out)
        clear HBD HMR
        go_wp2
        rw [HWX.out]
        refine bodyPost_ret (v := .tuple #[.slice Al rows.length cl, .int .i64 j, .int .i64 0]) (by simp [results, Tryd.results14, go_sem] <;> omega) rfl ⟨HBX.out, Al, cl, ?_, ?_⟩
        · rw [HRE.out, ← HKX.out.1] <;> rfl
        · rw [HRE.out, HKX.out.1]
          exact HTREE.out.weak (fun g h _ => by have h : N < g := h; omega)
      · have q31 : ((f : Int) == 31) = false := by rw [beq_eq_false_iff_ne]; omega
        by_cases hf0 : f = 0
        · have HMK := Lib.hid (HMR.out hf0)
          have hp1 := hpp hf0
          subst hf0
          exfalso; omega
        · have q0 : ((f : Int) != 0) = true := by rw [bne_iff_ne]; omega
          have HRE := Lib.hid (HRS.out.symm.trans (HBD.out h31 hf0))
          have HTREE := Lib.hid (rows_tree HOWNX.out H4.out HKX.out)
          clear HSH HMR
          go_wp2
          rw [HWX.out]
          refine bodyPost_ret (v := .tuple #[.slice Al rows.length cl, .int .i64 (j + p : Nat), .int .i64 f]) (by simp [results, Tryd.results14, go_sem] <;> omega) rfl ⟨HBX.out, Al, cl, ?_, ?_⟩
          · rw [HRE.out, ← HKX.out.1] <;> rfl
          · rw [HRE.out, HKX.out.1]
            exact HTREE.out.weak (fun g h _ => by have h : N < g := h; omega)
    · have hcjn : cap ≠ j := hcj
      have hA' : 0 < (bs.drop j).length → (some ⟨b, o + j, none⟩ : Option Addr) = some ⟨b, o + j, none⟩ := fun _ => rfl
      have HD := Lib.hid (ydecode_any _ b (o + j) (cap - j) (bs.drop j) wr (Nat.le_trans h6 HB.out.size) hA' (fun _ => Nat.lt_of_lt_of_le hb HB.out.size) hat' (by omega) (by omega) (HTT.out.below HB.out h6))
      rw [hlen] at HD
      have hcj2 : ¬ (cap = j) := hcj
      clear hA' hat'
      obtain ⟨tr, h1⟩ : ∃ t, (decS (bs.drop j)).1 = t := ⟨_, rfl⟩
      obtain ⟨p, h2⟩ : ∃ t, (decS (bs.drop j)).2.1 = t := ⟨_, rfl⟩
      obtain ⟨f, h3⟩ : ∃ t, (decS (bs.drop j)).2.2 = t := ⟨_, rfl⟩
      have hpl := decS_pl (bs.drop j)
      have hpp := decS_pos (bs.drop j)
      have HSH := Lib.hid (fun q => HK.out.short q)
      have HBD := Lib.hid (fun q q2 => HK.out.bad q q2)
      have HMR := Lib.hid (fun q => HK.out.more q)
      rw [h3] at HSH HBD HMR hpp HD
      rw [h2] at HBD HMR hpl hpp HD
      rw [h1] at HMR HD
      rw [hlen] at hpl
      clear h1 h2 h3
      obtain ⟨Al, cl, rfl⟩ := ownsRow_form hown
      have HOWN := Lib.hid hown
      have hzb := HB.out.size
      clear hown
      go_wp2_with fail
      refine HD.out.mono ?_
      rintro e w1 ⟨hb1, K, T, z, A2, l2, c2, rfl, hx⟩
      have HX := Lib.hid hx
      have hz1 := hb1.size
      obtain ⟨wx, hwx⟩ : ∃ wx, w1.alloc (.cells #[.int .i64 K, .string T, .int .i64 z, .slice A2 l2 c2] 25) = wx := ⟨_, rfl⟩
      have hbx : Below w1.heap.size w1 wx := by rw [← hwx]; exact (Below.refl _ _).alloc (Nat.le_refl _) _
      have hzx : wx.heap.size = w1.heap.size + 1 := by rw [← hwx]; simp
      have hnx : wx.heap[w1.heap.size]? = some (.cells #[.int .i64 K, .string T, .int .i64 z, .slice A2 l2 c2] 25) := by rw [← hwx]; exact World.alloc_heap_new w1 _
      have hbrx : Below wr.heap.size wr wx := hb1.trans (hbx.mono hb1.size)
      have HBRX := Lib.hid hbrx
      have HBX := Lib.hid (HB.out.trans (hbrx.mono HB.out.size))
      have HWX := Lib.hid hwx
      have HX2 := Lib.hid (HX.out.keep (w' := wx) (Q := fun g => wr.heap.size ≤ g) hbx.size (fun _ h _ => h) (fun g _ h => hbx.block g h))
      have HOWNX := Lib.hid (ownsRow_below HOWN.out hbrx)
      have HKX : Hid (Kids wx N (.slice Al rows.length cl) xs rows) := ⟨HKD.out.1, fun jj x hx => by obtain ⟨cs, g1, g2⟩ := HKD.out.2 jj x hx; exact ⟨cs, g1, g2.keep hbrx.size (fun _ h _ => h) (fun g _ h => hbrx.block g h)⟩⟩
      have u0 : wx.cell? ⟨w1.heap.size, 0, none⟩ = some (.int .i64 K) := cell_in hnx
      have u1 : wx.cell? ⟨w1.heap.size, 1, none⟩ = some (.string T) := cell_in hnx
      have u2 : wx.cell? ⟨w1.heap.size, 2, none⟩ = some (.int .i64 z) := cell_in hnx
      have u3 : wx.cell? ⟨w1.heap.size, 3, none⟩ = some (.slice A2 l2 c2) := cell_in hnx
      clear hb1 hx hwx hbx hnx hbrx HD
      by_cases h31 : f = 31
      · have HRE := Lib.hid (HRS.out.symm.trans (HSH.out h31))
        subst h31
        have HTREE := Lib.hid (rows_tree HOWNX.out H4.out HKX.out)
        clear HBD HMR
        go_wp2
        rw [HWX.out]
        refine bodyPost_ret (v := .tuple #[.slice Al rows.length cl, .int .i64 j, .int .i64 0]) (by simp [results, Tryd.results14, go_sem] <;> omega) rfl ⟨HBX.out, Al, cl, ?_, ?_⟩
        · rw [HRE.out, ← HKX.out.1] <;> rfl
        · rw [HRE.out, HKX.out.1]
          exact HTREE.out.weak (fun g h _ => by have h : N < g := h; omega)
      · have q31 : ((f : Int) == 31) = false := by rw [beq_eq_false_iff_ne]; omega
        by_cases hf0 : f = 0
        · have HMK := Lib.hid (HMR.out hf0)
          have hp1 := hpp hf0
          subst hf0
          have HO2 : Hid (((w1.alloc (.cells #[.int .i64 K, .string T, .int .i64 z, .slice A2 l2 c2] 25)).alloc (.cells #[.int .i64 K, .string T, .int .i64 z, .slice A2 l2 c2] 25)).ownsRow (N + 1) 25 4 (.slice Al rows.length cl) rows.length rows.flatten) := by rw [HWX.out]; exact HOWNX.out.alloc _
          have HNW : Hid (∀ jj u, [Value.int .i64 K, .string T, .int .i64 z, .slice A2 l2 c2][jj]? = some u → ((w1.alloc (.cells #[.int .i64 K, .string T, .int .i64 z, .slice A2 l2 c2] 25)).alloc (.cells #[.int .i64 K, .string T, .int .i64 z, .slice A2 l2 c2] 25)).cell? ((⟨w1.heap.size + 1, 0, none⟩ : Addr).add jj) = some u) := by
            have h0 := World.alloc_heap_new (w1.alloc (.cells #[.int .i64 K, .string T, .int .i64 z, .slice A2 l2 c2] 25)) (.cells #[.int .i64 K, .string T, .int .i64 z, .slice A2 l2 c2] 25)
            rw [World.size_alloc] at h0
            exact World.news_of_block (cs := #[.int .i64 K, .string T, .int .i64 z, .slice A2 l2 c2]) (t := 25) (fr := (0, 0)) h0
          have HSZ : Hid (((w1.alloc (.cells #[.int .i64 K, .string T, .int .i64 z, .slice A2 l2 c2] 25)).alloc (.cells #[.int .i64 K, .string T, .int .i64 z, .slice A2 l2 c2] 25)).heap.size = w1.heap.size + 2) := by unfold Hid; rw [World.size_alloc, World.size_alloc]
          have hrn : rows.length ≤ 100000000 := by omega
          have hN2 : N + 1 ≤ w1.heap.size + 2 := by omega
          clear HSH HBD HMR q31
          go_wp2_with (at_builtin; refine wpList_append_lies _ rfl _ _ 23 rfl (N + 1) 25 i0 (.agg #[.int .i64 0, .string ⟨#[]⟩, .int .i64 0, .slice none 0 0]) 4 56 Tryd.underlying23 hi0 hy0 hy1 hy2 rfl (by decide) (.slice Al rows.length cl) rows.length rows.flatten rfl HO2.out ⟨w1.heap.size + 1, 0, none⟩ 1 1 [.int .i64 K, .string T, .int .i64 z, .slice A2 l2 c2] rfl rfl HNW.out ?d2 (by decide) ?d3 ?d4 ?d5 (w1.heap.size + 2) HSZ.out ?_)
          case d2 => intro u hu; simp at hu; rcases hu with rfl | rfl | rfl | rfl <;> rfl
          case d3 => unfold maxLen; omega
          case d4 => omega
          case d5 => rw [HSZ.out]; exact hN2
          intro gg cc w5 hown5 hgr5 hgg hlt5
          rw [HWX.out] at hgr5
          have hzx2 : wx.heap.size = w1.heap.size + 1 := by rw [← HWX.out]; simp
          have hgf := (World.grownBy_alloc wx (.cells #[.int .i64 K, .string T, .int .i64 z, .slice A2 l2 c2] 25) (Value.slice Al rows.length cl).ownBlock).trans hgr5
          have hsf := hgf.size
          have HLT := Lib.hid (fun jj (hj : (Value.slice Al rows.length cl).ownBlock = some jj) => own_lt HOWN.out hj)
          have HK5 : Hid (Kids w5 N (.slice (some ⟨gg, 0, none⟩) (rows.length + 1) cc) (xs ++ [tr]) (rows ++ [[.int .i64 K, .string T, .int .i64 z, .slice A2 l2 c2]])) := by
            refine HKX.out.more (by omega) (fun g h1 _ h3 => hgf.block g h1 (fun e => h3 e.symm)) ?_ (HX2.out.keep (by omega) (fun g h1 h2 => ?_) (fun g h1 h2 => ?_))
            · rcases hgg with e | e
              · exact Or.inl (e.trans rfl)
              · exact Or.inr ⟨gg, rfl, by omega⟩
            · have h1 : wr.heap.size ≤ g := h1
              refine ⟨by omega, fun e => ?_⟩
              have e : some gg = some g := e
              injection e with e
              rcases hgg with e2 | e2
              · have := (HLT.out gg e2).2; omega
              · omega
            · have h1 : wr.heap.size ≤ g := h1
              exact hgf.block g h2 (fun e => by have := (HLT.out g e.symm).2; omega)
          have H45 : Hid (∀ r ∈ rows ++ [[.int .i64 K, .string T, .int .i64 z, .slice A2 l2 c2]], r.length = 4) := by
            intro r hr
            rcases List.mem_append.1 hr with hr | hr
            · exact H4.out r hr
            · simp at hr; rw [hr]; rfl
          have HO5 : Hid (w5.ownsRow (N + 1) 25 4 (.slice (some ⟨gg, 0, none⟩) (rows.length + 1) cc) (rows ++ [[Value.int .i64 K, .string T, .int .i64 z, .slice A2 l2 c2]]).length (rows ++ [[Value.int .i64 K, .string T, .int .i64 z, .slice A2 l2 c2]]).flatten) := by
            unfold Hid
            rw [show (rows ++ [[Value.int .i64 K, .string T, .int .i64 z, .slice A2 l2 c2]]).length = rows.length + 1 by simp, show (rows ++ [[Value.int .i64 K, .string T, .int .i64 z, .slice A2 l2 c2]]).flatten = rows.flatten ++ [Value.int .i64 K, .string T, .int .i64 z, .slice A2 l2 c2] by simp]
            exact hown5
          have HB5 : Hid (Below w.heap.size w w5) := HBX.out.grown hgf (by omega) (fun q hq => by have := (HLT.out q hq).1; omega)
          clear hown5 hgr5 hgf
          go_wp2
          go_roundw
          case rel => exact ⟨j + p, F, _, xs ++ [tr], by go_num, by omega, by omega, by rw [List.length_append]; simp only [List.length_singleton]; omega, HMK.out, HO5.out, H45.out, HK5.out, HB5.out⟩
          case measure => simp only [intOf]; omega
        · have q0 : ((f : Int) != 0) = true := by rw [bne_iff_ne]; omega
          have HRE := Lib.hid (HRS.out.symm.trans (HBD.out h31 hf0))
          have HTREE := Lib.hid (rows_tree HOWNX.out H4.out HKX.out)
          clear HSH HMR
          go_wp2
          rw [HWX.out]
          refine bodyPost_ret (v := .tuple #[.slice Al rows.length cl, .int .i64 (j + p : Nat), .int .i64 f]) (by simp [results, Tryd.results14, go_sem] <;> omega) rfl ⟨HBX.out, Al, cl, ?_, ?_⟩
          · rw [HRE.out, ← HKX.out.1] <;> rfl
          · rw [HRE.out, HKX.out.1]
            exact HTREE.out.weak (fun g h _ => by have h : N < g := h; omega)

end Go.Proofs.YtbldahkgilkclaaDoor
