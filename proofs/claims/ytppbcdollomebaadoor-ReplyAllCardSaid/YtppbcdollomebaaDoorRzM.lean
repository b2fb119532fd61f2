/-
  The walk of package reply's reader: reply, given array's. Conditions: the reader lies in memory.
-/
import Derived.Test.YtppbcdollomebaaDoorRzK
namespace Go.Proofs.YtppbcdollomebaaDoor
open Go.RowKit

/-- What package reply's array tells, where so many arrays more may stand in one another. -/
def arrT (bs : List UInt8) : Nat → Nat → RT × (Nat × Nat)
  | 0, i => (.node 7 [] 0 [], (numS bs 1 (-1) i).2)
  | l + 1, i => arrayS (replyS bs l) bs i

theorem marks_no {x : UInt8} (h43 : x.toNat ≠ 43) (h45 : x.toNat ≠ 45) (h58 : x.toNat ≠ 58) (h36 : x.toNat ≠ 36) (h42 : x.toNat ≠ 42) : ¬ ((0 : Int) ≤ Lib.indexByte [43, 45, 58, 36, 42] x) := by
  have h := Lib.contains_iff_indexByte [43, 45, 58, 36, 42] x
  have hc : ([43, 45, 58, 36, 42] : List UInt8).contains x = false := by
    cases hq : ([43, 45, 58, 36, 42] : List UInt8).contains x with
    | false => rfl
    | true =>
      exfalso
      simp at hq
      rcases hq with hq | hq | hq | hq | hq
      · subst hq; exact h43 rfl
      · subst hq; exact h45 rfl
      · subst hq; exact h58 rfl
      · subst hq; exact h36 rfl
      · subst hq; exact h42 rfl
  rw [hc] at h
  exact of_decide_eq_false h.symm

set_option maxRecDepth 100000 in
set_option maxHeartbeats 16000000 in
theorem yreply_step (B b : Nat) (bs : List UInt8) (left nest i : Nat) (w : World) (h : InAt w B b bs i nest)
    (HARR : ∀ i w, InAt w B b bs i nest → Calls Tryd.prog 56 #[.pointer (some ⟨B, 0, none⟩)] w (RPost w B b bs nest (arrT bs left i))) :
    Calls Tryd.prog 38 #[.pointer (some ⟨B, 0, none⟩)] w (RPost w B b bs nest (replyS bs left i)) := by
  have hB := h.hB
  have hb := h.hb
  have hn := h.ne
  have h6 : 6 ≤ w.heap.size := by have := h.six; omega
  have hal : Below w.heap.size w (w.alloc (.cells #[.int .i64 0, .string ⟨#[]⟩, .int .i64 0, .slice none 0 0] 25)) := (Below.refl _ _).alloc (Nat.le_refl _) _
  have hs : (w.alloc (.cells #[.int .i64 0, .string ⟨#[]⟩, .int .i64 0, .slice none 0 0] 25)).heap.size = w.heap.size + 1 := by simp
  obtain ⟨wa, hwa⟩ : ∃ wa, w.alloc (.cells #[.int .i64 0, .string ⟨#[]⟩, .int .i64 0, .slice none 0 0] 25) = wa := ⟨_, rfl⟩
  have hnew := World.alloc_heap_new w (.cells #[.int .i64 0, .string ⟨#[]⟩, .int .i64 0, .slice none 0 0] 25)
  rw [hwa] at hal hs hnew
  have HA := Lib.hid (h.below hal)
  have HAL := Lib.hid hal
  have HNEW := Lib.hid hnew
  have HARRH := Lib.hid HARR
  have hza : wa.heap.size = w.heap.size + 1 := hs
  have HZA := Lib.hid hza
  have hla : w.heap.size < wa.heap.size := by omega
  obtain ⟨v, hv, hlv⟩ := HA.out.c0
  have HV := Lib.hid hv
  have HLV := Lib.hid hlv
  clear h hal hs hnew HARR hza
  by_cases hl : bs.length ≤ i
  · have HS := Lib.hid (replyS_short bs left i hl)
    have HN := Lib.hid (ynext_end B b v wa hv (by rwa [List.drop_eq_nil_of_le hl] at hlv))
    have HFI := Lib.hid (show RPost w B b bs nest (replyS bs left i) (.panicked [{ v := faultR 31, recovered := false }]) wa from by rw [HS.out]; exact Or.inr ⟨by simp, rfl, nest, Gn.after HAL.out HA.out.gn⟩)
    obtain ⟨o, cap, rfl, _⟩ := hlv
    go_enter Tryd.func38, Tryd.ntmps38
    go_wp2_with fail
    try rw [hwa]
    clear hwa
    refine HN.out.mono ?_
    rintro e w' ⟨rfl, rfl⟩
    go_wp2
    exact ⟨rfl, HFI.out⟩
  obtain ⟨x, hx, hdr⟩ := drop_at hl rfl
  have HNX := Lib.hid (ynext_ok B b v x (bs.drop (i + 1)) wa hv (by rwa [hdr] at hlv))
  have HTK := Lib.hid (ytake_ok B b 1 v (x :: bs.drop (i + 1)) wa HA.out.hB hv HA.out.f0 (by rwa [hdr] at hlv) (by simp))
  have HI := Lib.hid (Tryd.strings_IndexByte ⟨#[43, 45, 58, 36, 42]⟩ x.toNat wa)
  rw [show ((x.toNat : Nat) : Int).toNat.toUInt8 = x from by simp] at HI
  obtain ⟨c, hcx⟩ : ∃ c, x.toNat = c := ⟨_, rfl⟩
  have HCX := Lib.hid hcx
  have hce : (bs.getD i 0).toNat = c := hx.symm.trans hcx
  have HSE := Lib.hid (fun (_ : Unit) => replyS_eq bs left i c hl hce)
  rw [hcx] at HNX HI
  clear hx hdr hcx hce hv
  obtain ⟨o, cap, rfl, _⟩ := hlv
  by_cases h43 : c = 43
  · subst h43
    obtain ⟨X, hX⟩ : ∃ X, textS bs (i + 1) = X := ⟨_, rfl⟩
    have HS := Lib.hid (HSE.out ())
    rw [if_pos rfl, hX] at HS
    have HC8 : Hid (x = 43) := u8_eq (k := 43) (by decide) HCX.out
    rw [HC8.out, show Lib.indexByte (⟨#[43, 45, 58, 36, 42]⟩ : ByteArray).data.toList 43 = 0 from by decide, show (((43 : Nat) : Nat) : Int) = 43 from rfl] at HI
    rw [show (((43 : Nat) : Nat) : Int) = 43 from rfl] at HNX
    go_enter Tryd.func38, Tryd.ntmps38
    go_wp2_with fail
    try rw [hwa]
    clear hwa
    refine HNX.out.mono ?_
    rintro e w' ⟨rfl, rfl⟩
    go_wp2_with fail
    refine (HI.out.mono fun _ _ h => (⟨h.1, h.2.symm⟩ : _ ∧ wa = _)).mono ?_
    rintro e w' ⟨rfl, rfl⟩
    go_wp2_with fail
    refine HTK.out.mono ?_
    rintro e w2 ⟨t2, v2, rfl, _, hv2, hp2⟩
    have HG2 := Lib.hid (HA.out.gn.put hp2 (show LeftV wa b v2 (bs.drop (i + 1)) from hv2))
    have hz2 := hp2.size
    obtain ⟨v3, hc3, hl3⟩ := HG2.out.st.c0
    clear hv2 hp2 HNX HI HTK
    have HL := Lib.hid (yline_any B b v3 bs (i + 1) w2 HG2.out.st.hB HG2.out.st.hb hn hc3 HG2.out.st.f0 hl3 (by have := HG2.out.st.six; have := HG2.out.st.hB; omega) HG2.out.st.tabs)
    rw [hX] at HL
    obtain ⟨o3, cap3, rfl, _⟩ := hl3
    clear hX
    go_wp2_with fail
    refine HL.out.mono ?_
    rintro e w4 ⟨hres, v4, hv4, hp4⟩
    have HG4 := Lib.hid (HG2.out.put hp4 hv4)
    obtain ⟨⟨r0, r1, r2, r3⟩, s0, s1, s2, s3⟩ := box_kept HNEW.out hla HG4.out.grown hB
    clear hv4 hp4
    rcases hres with ⟨hs0, xx, rfl, T, rfl, hT⟩ | ⟨hs1, hth⟩
    · go_wp2
      refine bodyPost_ret (v := leafV 1 T 0) ?_ rfl ?_
      · simp [results, Tryd.results38, go_sem, leafV, r0, r1, r2, r3]
      · rw [HS.out]
        exact Or.inl ⟨hs0, ⟨1, T, 0, none, 0, 0, rfl, .leaf 1 _ 0 T hT⟩, (Gn.after HAL.out HG4.out).box hB hb h6 _ _ _ _⟩
    · unfold ThrownR at hth
      have HFI := Lib.hid (show RPost w B b bs nest (replyS bs left i) (.panicked [{ v := faultR X.2, recovered := false }]) w4 from by rw [HS.out]; exact Or.inr ⟨hs1, rfl, nest, Gn.after HAL.out HG4.out⟩)
      obtain ⟨F, hF⟩ : ∃ F : Value, faultR X.2 = F := ⟨_, rfl⟩
      rw [hF] at HFI hth
      clear hF
      subst hth
      go_wp2
      exact ⟨rfl, HFI.out⟩
  by_cases h45 : c = 45
  · subst h45
    obtain ⟨X, hX⟩ : ∃ X, textS bs (i + 1) = X := ⟨_, rfl⟩
    have HS := Lib.hid (HSE.out ())
    rw [if_neg h43, if_pos rfl, hX] at HS
    have HC8 : Hid (x = 45) := u8_eq (k := 45) (by decide) HCX.out
    rw [HC8.out, show Lib.indexByte (⟨#[43, 45, 58, 36, 42]⟩ : ByteArray).data.toList 45 = 1 from by decide, show (((45 : Nat) : Nat) : Int) = 45 from rfl] at HI
    rw [show (((45 : Nat) : Nat) : Int) = 45 from rfl] at HNX
    go_enter Tryd.func38, Tryd.ntmps38
    go_wp2_with fail
    try rw [hwa]
    clear hwa
    refine HNX.out.mono ?_
    rintro e w' ⟨rfl, rfl⟩
    go_wp2_with fail
    refine (HI.out.mono fun _ _ h => (⟨h.1, h.2.symm⟩ : _ ∧ wa = _)).mono ?_
    rintro e w' ⟨rfl, rfl⟩
    go_wp2_with fail
    refine HTK.out.mono ?_
    rintro e w2 ⟨t2, v2, rfl, _, hv2, hp2⟩
    have HG2 := Lib.hid (HA.out.gn.put hp2 (show LeftV wa b v2 (bs.drop (i + 1)) from hv2))
    have hz2 := hp2.size
    obtain ⟨v3, hc3, hl3⟩ := HG2.out.st.c0
    clear hv2 hp2 HNX HI HTK
    have HL := Lib.hid (yline_any B b v3 bs (i + 1) w2 HG2.out.st.hB HG2.out.st.hb hn hc3 HG2.out.st.f0 hl3 (by have := HG2.out.st.six; have := HG2.out.st.hB; omega) HG2.out.st.tabs)
    rw [hX] at HL
    obtain ⟨o3, cap3, rfl, _⟩ := hl3
    clear hX
    go_wp2_with fail
    refine HL.out.mono ?_
    rintro e w4 ⟨hres, v4, hv4, hp4⟩
    have HG4 := Lib.hid (HG2.out.put hp4 hv4)
    obtain ⟨⟨r0, r1, r2, r3⟩, s0, s1, s2, s3⟩ := box_kept HNEW.out hla HG4.out.grown hB
    clear hv4 hp4
    rcases hres with ⟨hs0, xx, rfl, T, rfl, hT⟩ | ⟨hs1, hth⟩
    · go_wp2
      refine bodyPost_ret (v := leafV 2 T 0) ?_ rfl ?_
      · simp [results, Tryd.results38, go_sem, leafV, r0, r1, r2, r3]
      · rw [HS.out]
        exact Or.inl ⟨hs0, ⟨2, T, 0, none, 0, 0, rfl, .leaf 2 _ 0 T hT⟩, (Gn.after HAL.out HG4.out).box hB hb h6 _ _ _ _⟩
    · unfold ThrownR at hth
      have HFI := Lib.hid (show RPost w B b bs nest (replyS bs left i) (.panicked [{ v := faultR X.2, recovered := false }]) w4 from by rw [HS.out]; exact Or.inr ⟨hs1, rfl, nest, Gn.after HAL.out HG4.out⟩)
      obtain ⟨F, hF⟩ : ∃ F : Value, faultR X.2 = F := ⟨_, rfl⟩
      rw [hF] at HFI hth
      clear hF
      subst hth
      go_wp2
      exact ⟨rfl, HFI.out⟩
  by_cases h58 : c = 58
  · subst h58
    obtain ⟨⟨N, X⟩, hNX⟩ : ∃ s, numS bs 9223372036854775808 9223372036854775807 (i + 1) = s := ⟨_, rfl⟩
    obtain ⟨q1, q2⟩ := integer_num bs (i + 1)
    rw [hNX] at q1 q2
    have HQ2 := Lib.hid q2
    have HS := Lib.hid (HSE.out ())
    rw [if_neg h43, if_neg h45, if_pos rfl, ← q1] at HS
    clear q1 q2
    have HC8 : Hid (x = 58) := u8_eq (k := 58) (by decide) HCX.out
    rw [HC8.out, show Lib.indexByte (⟨#[43, 45, 58, 36, 42]⟩ : ByteArray).data.toList 58 = 2 from by decide, show (((58 : Nat) : Nat) : Int) = 58 from rfl] at HI
    rw [show (((58 : Nat) : Nat) : Int) = 58 from rfl] at HNX
    go_enter Tryd.func38, Tryd.ntmps38
    go_wp2_with fail
    try rw [hwa]
    clear hwa
    refine HNX.out.mono ?_
    rintro e w' ⟨rfl, rfl⟩
    go_wp2_with fail
    refine (HI.out.mono fun _ _ h => (⟨h.1, h.2.symm⟩ : _ ∧ wa = _)).mono ?_
    rintro e w' ⟨rfl, rfl⟩
    go_wp2_with fail
    refine HTK.out.mono ?_
    rintro e w2 ⟨t2, v2, rfl, _, hv2, hp2⟩
    have HG2 := Lib.hid (HA.out.gn.put hp2 (show LeftV wa b v2 (bs.drop (i + 1)) from hv2))
    have hz2 := hp2.size
    obtain ⟨v3, hc3, hl3⟩ := HG2.out.st.c0
    clear hv2 hp2 HNX HI HTK
    have HL := Lib.hid (ynumber_any B b v3 bs (i + 1) 9223372036854775808 (-9223372036854775808) 9223372036854775807 w2 HG2.out.st.hB HG2.out.st.hb hn hc3 HG2.out.st.f0 hl3 rfl (by decide) (by decide) (by decide) (by decide) N X hNX)
    obtain ⟨o3, cap3, rfl, _⟩ := hl3
    clear hNX
    go_wp2_with fail
    refine HL.out.mono ?_
    rintro e w4 ⟨hres, v4, hv4, hp4⟩
    have HG4 := Lib.hid (HG2.out.put hp4 hv4)
    obtain ⟨⟨r0, r1, r2, r3⟩, s0, s1, s2, s3⟩ := box_kept HNEW.out hla HG4.out.grown hB
    clear hv4 hp4
    rcases hres with ⟨hs0, xx, rfl, rfl⟩ | ⟨hs1, hth⟩
    · go_wp2
      refine bodyPost_ret (v := leafV 3 ⟨#[]⟩ N) ?_ rfl ?_
      · simp [results, Tryd.results38, go_sem, leafV, r0, r1, r2, r3]
      · rw [HS.out]
        exact Or.inl ⟨hs0, ⟨3, ⟨#[]⟩, N, none, 0, 0, rfl, by rw [← HQ2.out hs0]; exact .leaf 3 [] N ⟨#[]⟩ rfl⟩, (Gn.after HAL.out HG4.out).box hB hb h6 _ _ _ _⟩
    · unfold ThrownR at hth
      have HFI := Lib.hid (show RPost w B b bs nest (replyS bs left i) (.panicked [{ v := faultR X.2, recovered := false }]) w4 from by rw [HS.out]; exact Or.inr ⟨hs1, rfl, nest, Gn.after HAL.out HG4.out⟩)
      obtain ⟨F, hF⟩ : ∃ F : Value, faultR X.2 = F := ⟨_, rfl⟩
      rw [hF] at HFI hth
      clear hF
      subst hth
      go_wp2
      exact ⟨rfl, HFI.out⟩
  by_cases h36 : c = 36
  · subst h36
    obtain ⟨⟨⟨K, TL⟩, X⟩, hDX⟩ : ∃ s, dblkS bs (i + 1) = s := ⟨_, rfl⟩
    have HS := Lib.hid (HSE.out ())
    rw [if_neg h43, if_neg h45, if_neg h58, if_pos rfl, hDX] at HS
    have HC8 : Hid (x = 36) := u8_eq (k := 36) (by decide) HCX.out
    rw [HC8.out, show Lib.indexByte (⟨#[43, 45, 58, 36, 42]⟩ : ByteArray).data.toList 36 = 3 from by decide, show (((36 : Nat) : Nat) : Int) = 36 from rfl] at HI
    rw [show (((36 : Nat) : Nat) : Int) = 36 from rfl] at HNX
    go_enter Tryd.func38, Tryd.ntmps38
    go_wp2_with fail
    try rw [hwa]
    clear hwa
    refine HNX.out.mono ?_
    rintro e w' ⟨rfl, rfl⟩
    go_wp2_with fail
    refine (HI.out.mono fun _ _ h => (⟨h.1, h.2.symm⟩ : _ ∧ wa = _)).mono ?_
    rintro e w' ⟨rfl, rfl⟩
    go_wp2_with fail
    refine HTK.out.mono ?_
    rintro e w2 ⟨t2, v2, rfl, _, hv2, hp2⟩
    have HG2 := Lib.hid (HA.out.gn.put hp2 (show LeftV wa b v2 (bs.drop (i + 1)) from hv2))
    have hz2 := hp2.size
    obtain ⟨v3, hc3, hl3⟩ := HG2.out.st.c0
    clear hv2 hp2 HNX HI HTK
    have HL := Lib.hid (ybulk_any B b v3 bs (i + 1) w2 HG2.out.st.hB HG2.out.st.hb hn hc3 HG2.out.st.f0 hl3)
    rw [hDX] at HL
    obtain ⟨o3, cap3, rfl, _⟩ := hl3
    clear hDX
    go_wp2_with fail
    refine HL.out.mono ?_
    rintro e w4 ⟨hres, v4, hv4, hp4⟩
    have HG4 := Lib.hid (HG2.out.put hp4 hv4)
    obtain ⟨⟨r0, r1, r2, r3⟩, s0, s1, s2, s3⟩ := box_kept HNEW.out hla HG4.out.grown hB
    clear hv4 hp4
    rcases hres with ⟨hs0, T, rfl, hT⟩ | ⟨hs1, hth⟩
    · unfold leafV
      go_wp2
      refine bodyPost_ret (v := leafV K T 0) ?_ rfl ?_
      · simp [results, Tryd.results38, go_sem, leafV, r0, r1, r2, r3]
      · rw [HS.out]
        exact Or.inl ⟨hs0, ⟨K, T, 0, none, 0, 0, rfl, .leaf K _ 0 T hT⟩, (Gn.after HAL.out HG4.out).box hB hb h6 _ _ _ _⟩
    · unfold ThrownR at hth
      have HFI := Lib.hid (show RPost w B b bs nest (replyS bs left i) (.panicked [{ v := faultR X.2, recovered := false }]) w4 from by rw [HS.out]; exact Or.inr ⟨hs1, rfl, nest, Gn.after HAL.out HG4.out⟩)
      obtain ⟨F, hF⟩ : ∃ F : Value, faultR X.2 = F := ⟨_, rfl⟩
      rw [hF] at HFI
      rw [show faultR ((((K, TL), X) : (Nat × List UInt8) × (Nat × Nat)).2.2 : Nat) = F from hF] at hth
      clear hF
      subst hth
      go_wp2
      exact ⟨rfl, HFI.out⟩
  by_cases h42 : c = 42
  · subst h42
    obtain ⟨⟨tree, X⟩, hTX⟩ : ∃ s, arrT bs left (i + 1) = s := ⟨_, rfl⟩
    have HS : Hid (replyS bs left i = (tree, X)) := by
      have := HSE.out ()
      rw [if_neg h43, if_neg h45, if_neg h58, if_neg h36, if_pos rfl] at this
      refine this.trans ?_
      rw [← hTX]
      cases left with
      | zero => show (RT.node 7 [] 0 [], flatS bs i) = (RT.node 7 [] 0 [], (numS bs 1 (-1) (i + 1)).2); rw [(flat_num bs i).1]
      | succ l => rfl
    have HC8 : Hid (x = 42) := u8_eq (k := 42) (by decide) HCX.out
    rw [HC8.out, show Lib.indexByte (⟨#[43, 45, 58, 36, 42]⟩ : ByteArray).data.toList 42 = 4 from by decide, show (((42 : Nat) : Nat) : Int) = 42 from rfl] at HI
    rw [show (((42 : Nat) : Nat) : Int) = 42 from rfl] at HNX
    go_enter Tryd.func38, Tryd.ntmps38
    go_wp2_with fail
    try rw [hwa]
    clear hwa
    refine HNX.out.mono ?_
    rintro e w' ⟨rfl, rfl⟩
    go_wp2_with fail
    refine (HI.out.mono fun _ _ h => (⟨h.1, h.2.symm⟩ : _ ∧ wa = _)).mono ?_
    rintro e w' ⟨rfl, rfl⟩
    go_wp2_with fail
    refine HTK.out.mono ?_
    rintro e w2 ⟨t2, v2, rfl, _, hv2, hp2⟩
    have HG2 := Lib.hid (HA.out.gn.put hp2 (show LeftV wa b v2 (bs.drop (i + 1)) from hv2))
    have hz2 := hp2.size
    obtain ⟨v3, hc3, hl3⟩ := HG2.out.st.c0
    clear hv2 hp2 HNX HI HTK
    have HL := Lib.hid (HARRH.out (i + 1) w2 HG2.out.st)
    rw [hTX] at HL
    obtain ⟨o3, cap3, rfl, _⟩ := hl3
    clear hTX
    go_wp2_with fail
    refine HL.out.mono ?_
    rintro e w4 hres
    rcases hres with ⟨hs0, ⟨K, T, z, A', l, cc, rfl, hx⟩, hg4⟩ | ⟨hs1, hth, m, hg4⟩
    · have HG4 := Lib.hid (HG2.out.trans hg4)
      have HX := Lib.hid hx
      obtain ⟨⟨r0, r1, r2, r3⟩, s0, s1, s2, s3⟩ := box_kept HNEW.out hla HG4.out.grown hB
      clear hg4 hx
      go_wp2
      refine bodyPost_ret (v := .agg #[.int .i64 K, .string T, .int .i64 z, .slice A' l cc]) ?_ rfl ?_
      · simp [results, Tryd.results38, go_sem, r0, r1, r2, r3]
      · rw [HS.out]
        refine Or.inl ⟨hs0, ⟨K, T, z, A', l, cc, rfl, ?_⟩, (Gn.after HAL.out HG4.out).box hB hb h6 _ _ _ _⟩
        refine HX.out.keep (by simp [World.setCell]) (fun g h1 _ => by have h1 : w2.heap.size ≤ g := h1; omega) (fun g h1 _ => ?_)
        have h1 : w2.heap.size ≤ g := h1
        have hg : g ≠ w.heap.size := by omega
        rw [Below.heap_setCell _ _ _ _ hg, Below.heap_setCell _ _ _ _ hg, Below.heap_setCell _ _ _ _ hg, Below.heap_setCell _ _ _ _ hg]
    · unfold ThrownR at hth
      have HFI := Lib.hid (show RPost w B b bs nest (replyS bs left i) (.panicked [{ v := faultR X.2, recovered := false }]) w4 from by rw [HS.out]; exact Or.inr ⟨hs1, rfl, m, Gn.after HAL.out (HG2.out.trans hg4)⟩)
      obtain ⟨F, hF⟩ : ∃ F : Value, faultR X.2 = F := ⟨_, rfl⟩
      rw [hF] at HFI
      rw [show faultR (((tree, X) : RT × (Nat × Nat)).2.2 : Nat) = F from hF] at hth
      clear hF
      subst hth
      go_wp2
      exact ⟨rfl, HFI.out⟩
  · have HS := Lib.hid (HSE.out ())
    rw [if_neg h43, if_neg h45, if_neg h58, if_neg h36, if_neg h42] at HS
    obtain ⟨J, hJ⟩ : ∃ J, Lib.indexByte (⟨#[43, 45, 58, 36, 42]⟩ : ByteArray).data.toList x = J := ⟨_, rfl⟩
    have hJ0 : ¬ ((0 : Int) ≤ J) := by rw [← hJ]; exact marks_no (by rw [HCX.out]; exact h43) (by rw [HCX.out]; exact h45) (by rw [HCX.out]; exact h58) (by rw [HCX.out]; exact h36) (by rw [HCX.out]; exact h42)
    have hJ1 : J < 0 := by omega
    rw [hJ] at HI
    have HFI := Lib.hid (show RPost w B b bs nest (replyS bs left i) (.panicked [{ v := faultR 30, recovered := false }]) wa from by rw [HS.out]; exact Or.inr ⟨by simp, rfl, nest, Gn.after HAL.out HA.out.gn⟩)
    clear hJ h43 h45 h58 h36 h42
    go_enter Tryd.func38, Tryd.ntmps38
    go_wp2_with fail
    try rw [hwa]
    clear hwa
    refine HNX.out.mono ?_
    rintro e w' ⟨rfl, rfl⟩
    go_wp2_with fail
    refine (HI.out.mono fun _ _ h => (⟨h.1, h.2.symm⟩ : _ ∧ wa = _)).mono ?_
    rintro e w' ⟨rfl, rfl⟩
    go_wp2
    exact ⟨rfl, HFI.out⟩

end Go.Proofs.YtppbcdollomebaaDoor
