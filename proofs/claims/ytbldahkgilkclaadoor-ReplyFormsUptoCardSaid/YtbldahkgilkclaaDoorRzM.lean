/-
  The walk of package reply's reader: reply, given array's. Conditions: the reader lies in memory. The walk of package reply's reader: array, given reply's. Conditions: the reader lies in memory. The walks of package reply's reader, whole and Decode, at any bytes. Conditions: the bytes lie in memory. The walks of package reply's whole and Decode, at any bytes. Conditions: the bytes lie in memory. The walk of package reply's Decode, at any bytes, none among them: it tells what the document's tells. Conditions: the bytes lie in memory. Plain facts: no place that the document's reader tells lies beyond the bytes. Package reply's Decode tells what the document's tells, at any bytes. Conditions: the bytes lie in memory.
-/
import Derived.Test.YtbldahkgilkclaaDoorRzK
import Derived.Test.YtbldahkgilkclaaDoorRyF
import Derived.Deep.RegionLaw
namespace Go.Proofs.YtbldahkgilkclaaDoor
open Go.RowKit

/-- What package reply's array tells, where so many arrays more may stand in one another. -/
def arrT (bs : List UInt8) : Nat → Nat → RT × (Nat × Nat)
  | 0, i => (.node 7 [] 0 [], (numS bs 1 (-1) i).2)
  | l + 1, i => arrayS (replyS bs l) bs i

theorem marks_no {x : UInt8} (h43 : x.toNat ≠ 43) (h45 : x.toNat ≠ 45) (h58 : x.toNat ≠ 58) (h36 : x.toNat ≠ 36) (h42 : x.toNat ≠ 42) : ¬ ((0 : Int) ≤ Lib.indexByte [43, 45, 58, 36, 42] x) := by
  have h := Lib.contains_iff_indexByte [43, 45, 58, 36, 42] x
  have hc : ([43, 45, 58, 36, 42] : List UInt8).contains x = false := by
    cases hq : ([43, 45, 58, 36, 42] : List UInt8).contains x with
    | false => rfl
    | true =>
      exfalso
      simp at hq
      rcases hq with hq | hq | hq | hq | hq
      · subst hq; exact h43 rfl
      · subst hq; exact h45 rfl
      · subst hq; exact h58 rfl
      · subst hq; exact h36 rfl
      · subst hq; exact h42 rfl
  rw [hc] at h
  exact of_decide_eq_false h.symm

set_option maxRecDepth 100000 in
set_option maxHeartbeats 16000000 in
theorem yreply_step (B b : Nat) (bs : List UInt8) (left nest i : Nat) (w : World) (h : InAt w B b bs i nest)
    (HARR : ∀ i w, InAt w B b bs i nest → Calls Tryd.prog 43 #[.pointer (some ⟨B, 0, none⟩)] w (RPost w B b bs nest (arrT bs left i))) :
    Calls Tryd.prog 33 #[.pointer (some ⟨B, 0, none⟩)] w (RPost w B b bs nest (replyS bs left i)) := by
  have hB := h.hB
  have hb := h.hb
  have hn := h.ne
  have h6 : 6 ≤ w.heap.size := by have := h.six; omega
  have hal : Below w.heap.size w (w.alloc (.cells #[.int .i64 0, .string ⟨#[]⟩, .int .i64 0, .slice none 0 0] 25)) := (Below.refl _ _).alloc (Nat.le_refl _) _
  have hs : (w.alloc (.cells #[.int .i64 0, .string ⟨#[]⟩, .int .i64 0, .slice none 0 0] 25)).heap.size = w.heap.size + 1 := by simp
  obtain ⟨wa, hwa⟩ : ∃ wa, w.alloc (.cells #[.int .i64 0, .string ⟨#[]⟩, .int .i64 0, .slice none 0 0] 25) = wa := ⟨_, rfl⟩
  have hnew := World.alloc_heap_new w (.cells #[.int .i64 0, .string ⟨#[]⟩, .int .i64 0, .slice none 0 0] 25)
  rw [hwa] at hal hs hnew
  have HA := Lib.hid (h.below hal)
  have HAL := Lib.hid hal
  have HNEW := Lib.hid hnew
  have HARRH := Lib.hid HARR
  have hza : wa.heap.size = w.heap.size + 1 := hs
  have HZA := Lib.hid hza
  have hla : w.heap.size < wa.heap.size := by omega
  obtain ⟨v, hv, hlv⟩ := HA.out.c0
  have HV := Lib.hid hv
  have HLV := Lib.hid hlv
  clear h hal hs hnew HARR hza
  by_cases hl : bs.length ≤ i
  · have HS := Lib.hid (replyS_short bs left i hl)
    have HN := Lib.hid (ynext_end B b v wa hv (by rwa [List.drop_eq_nil_of_le hl] at hlv))
    have HFI := Lib.hid (show RPost w B b bs nest (replyS bs left i) (.panicked [{ v := faultR 31, recovered := false }]) wa from by rw [HS.out]; exact Or.inr ⟨by simp, rfl, nest, Gn.after HAL.out HA.out.gn⟩)
    obtain ⟨o, cap, rfl, _⟩ := hlv
    go_enter Tryd.func33, Tryd.ntmps33
    go_wp2_with fail
    try rw [hwa]
    clear hwa
    refine HN.out.mono ?_
    rintro e w' ⟨rfl, rfl⟩
    go_wp2
    exact ⟨rfl, HFI.out⟩
  obtain ⟨x, hx, hdr⟩ := drop_at hl rfl
  have HNX := Lib.hid (ynext_ok B b v x (bs.drop (i + 1)) wa hv (by rwa [hdr] at hlv))
  have HTK := Lib.hid (ytake_ok B b 1 v (x :: bs.drop (i + 1)) wa HA.out.hB hv HA.out.f0 (by rwa [hdr] at hlv) (by simp))
  have HI := Lib.hid (Tryd.strings_IndexByte ⟨#[43, 45, 58, 36, 42]⟩ x.toNat wa)
  rw [show ((x.toNat : Nat) : Int).toNat.toUInt8 = x from by simp] at HI
  obtain ⟨c, hcx⟩ : ∃ c, x.toNat = c := ⟨_, rfl⟩
  have HCX := Lib.hid hcx
  have hce : (bs.getD i 0).toNat = c := hx.symm.trans hcx
  have HSE := Lib.hid (fun (_ : Unit) => replyS_eq bs left i c hl hce)
  rw [hcx] at HNX HI
  clear hx hdr hcx hce hv
  obtain ⟨o, cap, rfl, _⟩ := hlv
  by_cases h43 : c = 43
  · subst h43
    obtain ⟨X, hX⟩ : ∃ X, textS bs (i + 1) = X := ⟨_, rfl⟩
    have HS := Lib.hid (HSE.out ())
    rw [if_pos rfl, hX] at HS
    have HC8 : Hid (x = 43) := u8_eq (k := 43) (by decide) HCX.out
    rw [HC8.out, show Lib.indexByte (⟨#[43, 45, 58, 36, 42]⟩ : ByteArray).data.toList 43 = 0 from by decide, show (((43 : Nat) : Nat) : Int) = 43 from rfl] at HI
    rw [show (((43 : Nat) : Nat) : Int) = 43 from rfl] at HNX
    go_enter Tryd.func33, Tryd.ntmps33
    go_wp2_with fail
    try rw [hwa]
    clear hwa
    refine HNX.out.mono ?_
    rintro e w' ⟨rfl, rfl⟩
    go_wp2_with fail
    refine (HI.out.mono fun _ _ h => (⟨h.1, h.2.symm⟩ : _ ∧ wa = _)).mono ?_
    rintro e w' ⟨rfl, rfl⟩
    go_wp2_with fail
    refine HTK.out.mono ?_
    rintro e w2 ⟨t2, v2, rfl, _, hv2, hp2⟩
    have HG2 := Lib.hid (HA.out.gn.put hp2 (show LeftV wa b v2 (bs.drop (i + 1)) from hv2))
    have hz2 := hp2.size
    obtain ⟨v3, hc3, hl3⟩ := HG2.out.st.c0
    clear hv2 hp2 HNX HI HTK
    have HL := Lib.hid (yline_any B b v3 bs (i + 1) w2 HG2.out.st.hB HG2.out.st.hb hn hc3 HG2.out.st.f0 hl3 (by have := HG2.out.st.six; have := HG2.out.st.hB; omega) HG2.out.st.tabs)
    rw [hX] at HL
    obtain ⟨o3, cap3, rfl, _⟩ := hl3
    clear hX
    go_wp2_with fail
    refine HL.out.mono ?_
    rintro e w4 ⟨hres, v4, hv4, hp4⟩
    have HG4 := Lib.hid (HG2.out.put hp4 hv4)
    obtain ⟨⟨r0, r1, r2, r3⟩, s0, s1, s2, s3⟩ := box_kept HNEW.out hla HG4.out.grown hB
    clear hv4 hp4
    rcases hres with ⟨hs0, xx, rfl, T, rfl, hT⟩ | ⟨hs1, hth⟩
    · go_wp2
      refine bodyPost_ret (v := leafV 1 T 0) ?_ rfl ?_
      · simp [results, Tryd.results33, go_sem, leafV, r0, r1, r2, r3]
      · rw [HS.out]
        exact Or.inl ⟨hs0, ⟨1, T, 0, none, 0, 0, rfl, .leaf 1 _ 0 T hT⟩, (Gn.after HAL.out HG4.out).box hB hb h6 _ _ _ _⟩
    · unfold ThrownR at hth
      have HFI := Lib.hid (show RPost w B b bs nest (replyS bs left i) (.panicked [{ v := faultR X.2, recovered := false }]) w4 from by rw [HS.out]; exact Or.inr ⟨hs1, rfl, nest, Gn.after HAL.out HG4.out⟩)
      obtain ⟨F, hF⟩ : ∃ F : Value, faultR X.2 = F := ⟨_, rfl⟩
      rw [hF] at HFI hth
      clear hF
      subst hth
      go_wp2
      exact ⟨rfl, HFI.out⟩
  by_cases h45 : c = 45
  · subst h45
    obtain ⟨X, hX⟩ : ∃ X, textS bs (i + 1) = X := ⟨_, rfl⟩
    have HS := Lib.hid (HSE.out ())
    rw [if_neg h43, if_pos rfl, hX] at HS
    have HC8 : Hid (x = 45) := u8_eq (k := 45) (by decide) HCX.out
    rw [HC8.out, show Lib.indexByte (⟨#[43, 45, 58, 36, 42]⟩ : ByteArray).data.toList 45 = 1 from by decide, show (((45 : Nat) : Nat) : Int) = 45 from rfl] at HI
    rw [show (((45 : Nat) : Nat) : Int) = 45 from rfl] at HNX
    go_enter Tryd.func33, Tryd.ntmps33
    go_wp2_with fail
    try rw [hwa]
    clear hwa
    refine HNX.out.mono ?_
    rintro e w' ⟨rfl, rfl⟩
    go_wp2_with fail
    refine (HI.out.mono fun _ _ h => (⟨h.1, h.2.symm⟩ : _ ∧ wa = _)).mono ?_
    rintro e w' ⟨rfl, rfl⟩
    go_wp2_with fail
    refine HTK.out.mono ?_
    rintro e w2 ⟨t2, v2, rfl, _, hv2, hp2⟩
    have HG2 := Lib.hid (HA.out.gn.put hp2 (show LeftV wa b v2 (bs.drop (i + 1)) from hv2))
    have hz2 := hp2.size
    obtain ⟨v3, hc3, hl3⟩ := HG2.out.st.c0
    clear hv2 hp2 HNX HI HTK
    have HL := Lib.hid (yline_any B b v3 bs (i + 1) w2 HG2.out.st.hB HG2.out.st.hb hn hc3 HG2.out.st.f0 hl3 (by have := HG2.out.st.six; have := HG2.out.st.hB; omega) HG2.out.st.tabs)
    rw [hX] at HL
    obtain ⟨o3, cap3, rfl, _⟩ := hl3
    clear hX
    go_wp2_with fail
    refine HL.out.mono ?_
    rintro e w4 ⟨hres, v4, hv4, hp4⟩
    have HG4 := Lib.hid (HG2.out.put hp4 hv4)
    obtain ⟨⟨r0, r1, r2, r3⟩, s0, s1, s2, s3⟩ := box_kept HNEW.out hla HG4.out.grown hB
    clear hv4 hp4
    rcases hres with ⟨hs0, xx, rfl, T, rfl, hT⟩ | ⟨hs1, hth⟩
    · go_wp2
      refine bodyPost_ret (v := leafV 2 T 0) ?_ rfl ?_
      · simp [results, Tryd.results33, go_sem, leafV, r0, r1, r2, r3]
      · rw [HS.out]
        exact Or.inl ⟨hs0, ⟨2, T, 0, none, 0, 0, rfl, .leaf 2 _ 0 T hT⟩, (Gn.after HAL.out HG4.out).box hB hb h6 _ _ _ _⟩
    · unfold ThrownR at hth
      have HFI := Lib.hid (show RPost w B b bs nest (replyS bs left i) (.panicked [{ v := faultR X.2, recovered := false }]) w4 from by rw [HS.out]; exact Or.inr ⟨hs1, rfl, nest, Gn.after HAL.out HG4.out⟩)
      obtain ⟨F, hF⟩ : ∃ F : Value, faultR X.2 = F := ⟨_, rfl⟩
      rw [hF] at HFI hth
      clear hF
      subst hth
      go_wp2
      exact ⟨rfl, HFI.out⟩
  by_cases h58 : c = 58
  · subst h58
    obtain ⟨⟨N, X⟩, hNX⟩ : ∃ s, numS bs 9223372036854775808 9223372036854775807 (i + 1) = s := ⟨_, rfl⟩
    obtain ⟨q1, q2⟩ := integer_num bs (i + 1)
    rw [hNX] at q1 q2
    have HQ2 := Lib.hid q2
    have HS := Lib.hid (HSE.out ())
    rw [if_neg h43, if_neg h45, if_pos rfl, ← q1] at HS
    clear q1 q2
    have HC8 : Hid (x = 58) := u8_eq (k := 58) (by decide) HCX.out
    rw [HC8.out, show Lib.indexByte (⟨#[43, 45, 58, 36, 42]⟩ : ByteArray).data.toList 58 = 2 from by decide, show (((58 : Nat) : Nat) : Int) = 58 from rfl] at HI
    rw [show (((58 : Nat) : Nat) : Int) = 58 from rfl] at HNX
    go_enter Tryd.func33, Tryd.ntmps33
    go_wp2_with fail
    try rw [hwa]
    clear hwa
    refine HNX.out.mono ?_
    rintro e w' ⟨rfl, rfl⟩
    go_wp2_with fail
    refine (HI.out.mono fun _ _ h => (⟨h.1, h.2.symm⟩ : _ ∧ wa = _)).mono ?_
    rintro e w' ⟨rfl, rfl⟩
    go_wp2_with fail
    refine HTK.out.mono ?_
    rintro e w2 ⟨t2, v2, rfl, _, hv2, hp2⟩
    have HG2 := Lib.hid (HA.out.gn.put hp2 (show LeftV wa b v2 (bs.drop (i + 1)) from hv2))
    have hz2 := hp2.size
    obtain ⟨v3, hc3, hl3⟩ := HG2.out.st.c0
    clear hv2 hp2 HNX HI HTK
    have HL := Lib.hid (ynumber_any B b v3 bs (i + 1) 9223372036854775808 (-9223372036854775808) 9223372036854775807 w2 HG2.out.st.hB HG2.out.st.hb hn hc3 HG2.out.st.f0 hl3 rfl (by decide) (by decide) (by decide) (by decide) N X hNX)
    obtain ⟨o3, cap3, rfl, _⟩ := hl3
    clear hNX
    go_wp2_with fail
    refine HL.out.mono ?_
    rintro e w4 ⟨hres, v4, hv4, hp4⟩
    have HG4 := Lib.hid (HG2.out.put hp4 hv4)
    obtain ⟨⟨r0, r1, r2, r3⟩, s0, s1, s2, s3⟩ := box_kept HNEW.out hla HG4.out.grown hB
    clear hv4 hp4
    rcases hres with ⟨hs0, xx, rfl, rfl⟩ | ⟨hs1, hth⟩
    · go_wp2
      refine bodyPost_ret (v := leafV 3 ⟨#[]⟩ N) ?_ rfl ?_
      · simp [results, Tryd.results33, go_sem, leafV, r0, r1, r2, r3]
      · rw [HS.out]
        exact Or.inl ⟨hs0, ⟨3, ⟨#[]⟩, N, none, 0, 0, rfl, by rw [← HQ2.out hs0]; exact .leaf 3 [] N ⟨#[]⟩ rfl⟩, (Gn.after HAL.out HG4.out).box hB hb h6 _ _ _ _⟩
    · unfold ThrownR at hth
      have HFI := Lib.hid (show RPost w B b bs nest (replyS bs left i) (.panicked [{ v := faultR X.2, recovered := false }]) w4 from by rw [HS.out]; exact Or.inr ⟨hs1, rfl, nest, Gn.after HAL.out HG4.out⟩)
      obtain ⟨F, hF⟩ : ∃ F : Value, faultR X.2 = F := ⟨_, rfl⟩
      rw [hF] at HFI hth
      clear hF
      subst hth
      go_wp2
      exact ⟨rfl, HFI.out⟩
  by_cases h36 : c = 36
  · subst h36
    obtain ⟨⟨⟨K, TL⟩, X⟩, hDX⟩ : ∃ s, dblkS bs (i + 1) = s := ⟨_, rfl⟩
    have HS := Lib.hid (HSE.out ())
    rw [if_neg h43, if_neg h45, if_neg h58, if_pos rfl, hDX] at HS
    have HC8 : Hid (x = 36) := u8_eq (k := 36) (by decide) HCX.out
    rw [HC8.out, show Lib.indexByte (⟨#[43, 45, 58, 36, 42]⟩ : ByteArray).data.toList 36 = 3 from by decide, show (((36 : Nat) : Nat) : Int) = 36 from rfl] at HI
    rw [show (((36 : Nat) : Nat) : Int) = 36 from rfl] at HNX
    go_enter Tryd.func33, Tryd.ntmps33
    go_wp2_with fail
    try rw [hwa]
    clear hwa
    refine HNX.out.mono ?_
    rintro e w' ⟨rfl, rfl⟩
    go_wp2_with fail
    refine (HI.out.mono fun _ _ h => (⟨h.1, h.2.symm⟩ : _ ∧ wa = _)).mono ?_
    rintro e w' ⟨rfl, rfl⟩
    go_wp2_with fail
    refine HTK.out.mono ?_
    rintro e w2 ⟨t2, v2, rfl, _, hv2, hp2⟩
    have HG2 := Lib.hid (HA.out.gn.put hp2 (show LeftV wa b v2 (bs.drop (i + 1)) from hv2))
    have hz2 := hp2.size
    obtain ⟨v3, hc3, hl3⟩ := HG2.out.st.c0
    clear hv2 hp2 HNX HI HTK
    have HL := Lib.hid (ybulk_any B b v3 bs (i + 1) w2 HG2.out.st.hB HG2.out.st.hb hn hc3 HG2.out.st.f0 hl3)
    rw [hDX] at HL
    obtain ⟨o3, cap3, rfl, _⟩ := hl3
    clear hDX
    go_wp2_with fail
    refine HL.out.mono ?_
    rintro e w4 ⟨hres, v4, hv4, hp4⟩
    have HG4 := Lib.hid (HG2.out.put hp4 hv4)
    obtain ⟨⟨r0, r1, r2, r3⟩, s0, s1, s2, s3⟩ := box_kept HNEW.out hla HG4.out.grown hB
    clear hv4 hp4
    rcases hres with ⟨hs0, T, rfl, hT⟩ | ⟨hs1, hth⟩
    · unfold leafV
      go_wp2
      refine bodyPost_ret (v := leafV K T 0) ?_ rfl ?_
      · simp [results, Tryd.results33, go_sem, leafV, r0, r1, r2, r3]
      · rw [HS.out]
        exact Or.inl ⟨hs0, ⟨K, T, 0, none, 0, 0, rfl, .leaf K _ 0 T hT⟩, (Gn.after HAL.out HG4.out).box hB hb h6 _ _ _ _⟩
    · unfold ThrownR at hth
      have HFI := Lib.hid (show RPost w B b bs nest (replyS bs left i) (.panicked [{ v := faultR X.2, recovered := false }]) w4 from by rw [HS.out]; exact Or.inr ⟨hs1, rfl, nest, Gn.after HAL.out HG4.out⟩)
      obtain ⟨F, hF⟩ : ∃ F : Value, faultR X.2 = F := ⟨_, rfl⟩
      rw [hF] at HFI
      rw [show faultR ((((K, TL), X) : (Nat × List UInt8) × (Nat × Nat)).2.2 : Nat) = F from hF] at hth
      clear hF
      subst hth
      go_wp2
      exact ⟨rfl, HFI.out⟩
  by_cases h42 : c = 42
  · subst h42
    obtain ⟨⟨tree, X⟩, hTX⟩ : ∃ s, arrT bs left (i + 1) = s := ⟨_, rfl⟩
    have HS : Hid (replyS bs left i = (tree, X)) := by
      have := HSE.out ()
      rw [if_neg h43, if_neg h45, if_neg h58, if_neg h36, if_pos rfl] at this
      refine this.trans ?_
      rw [← hTX]
      cases left with
      | zero => show (RT.node 7 [] 0 [], flatS bs i) = (RT.node 7 [] 0 [], (numS bs 1 (-1) (i + 1)).2); rw [(flat_num bs i).1]
      | succ l => rfl
    have HC8 : Hid (x = 42) := u8_eq (k := 42) (by decide) HCX.out
    rw [HC8.out, show Lib.indexByte (⟨#[43, 45, 58, 36, 42]⟩ : ByteArray).data.toList 42 = 4 from by decide, show (((42 : Nat) : Nat) : Int) = 42 from rfl] at HI
    rw [show (((42 : Nat) : Nat) : Int) = 42 from rfl] at HNX
    go_enter Tryd.func33, Tryd.ntmps33
    go_wp2_with fail
    try rw [hwa]
    clear hwa
    refine HNX.out.mono ?_
    rintro e w' ⟨rfl, rfl⟩
    go_wp2_with fail
    refine (HI.out.mono fun _ _ h => (⟨h.1, h.2.symm⟩ : _ ∧ wa = _)).mono ?_
    rintro e w' ⟨rfl, rfl⟩
    go_wp2_with fail
    refine HTK.out.mono ?_
    rintro e w2 ⟨t2, v2, rfl, _, hv2, hp2⟩
    have HG2 := Lib.hid (HA.out.gn.put hp2 (show LeftV wa b v2 (bs.drop (i + 1)) from hv2))
    have hz2 := hp2.size
    obtain ⟨v3, hc3, hl3⟩ := HG2.out.st.c0
    clear hv2 hp2 HNX HI HTK
    have HL := Lib.hid (HARRH.out (i + 1) w2 HG2.out.st)
    rw [hTX] at HL
    obtain ⟨o3, cap3, rfl, _⟩ := hl3
    clear hTX
    go_wp2_with fail
    refine HL.out.mono ?_
    rintro e w4 hres
    rcases hres with ⟨hs0, ⟨K, T, z, A', l, cc, rfl, hx⟩, hg4⟩ | ⟨hs1, hth, m, hg4⟩
    · have HG4 := Lib.hid (HG2.out.trans hg4)
      have HX := Lib.hid hx
      obtain ⟨⟨r0, r1, r2, r3⟩, s0, s1, s2, s3⟩ := box_kept HNEW.out hla HG4.out.grown hB
      clear hg4 hx
      go_wp2
      refine bodyPost_ret (v := .agg #[.int .i64 K, .string T, .int .i64 z, .slice A' l cc]) ?_ rfl ?_
      · simp [results, Tryd.results33, go_sem, r0, r1, r2, r3]
      · rw [HS.out]
        refine Or.inl ⟨hs0, ⟨K, T, z, A', l, cc, rfl, ?_⟩, (Gn.after HAL.out HG4.out).box hB hb h6 _ _ _ _⟩
        refine HX.out.keep (by simp [World.setCell]) (fun g h1 _ => by have h1 : w2.heap.size ≤ g := h1; omega) (fun g h1 _ => ?_)
        have h1 : w2.heap.size ≤ g := h1
        have hg : g ≠ w.heap.size := by omega
        rw [Below.heap_setCell _ _ _ _ hg, Below.heap_setCell _ _ _ _ hg, Below.heap_setCell _ _ _ _ hg, Below.heap_setCell _ _ _ _ hg]
    · unfold ThrownR at hth
      have HFI := Lib.hid (show RPost w B b bs nest (replyS bs left i) (.panicked [{ v := faultR X.2, recovered := false }]) w4 from by rw [HS.out]; exact Or.inr ⟨hs1, rfl, m, Gn.after HAL.out (HG2.out.trans hg4)⟩)
      obtain ⟨F, hF⟩ : ∃ F : Value, faultR X.2 = F := ⟨_, rfl⟩
      rw [hF] at HFI
      rw [show faultR (((tree, X) : RT × (Nat × Nat)).2.2 : Nat) = F from hF] at hth
      clear hF
      subst hth
      go_wp2
      exact ⟨rfl, HFI.out⟩
  · have HS := Lib.hid (HSE.out ())
    rw [if_neg h43, if_neg h45, if_neg h58, if_neg h36, if_neg h42] at HS
    obtain ⟨J, hJ⟩ : ∃ J, Lib.indexByte (⟨#[43, 45, 58, 36, 42]⟩ : ByteArray).data.toList x = J := ⟨_, rfl⟩
    have hJ0 : ¬ ((0 : Int) ≤ J) := by rw [← hJ]; exact marks_no (by rw [HCX.out]; exact h43) (by rw [HCX.out]; exact h45) (by rw [HCX.out]; exact h58) (by rw [HCX.out]; exact h36) (by rw [HCX.out]; exact h42)
    have hJ1 : J < 0 := by omega
    rw [hJ] at HI
    have HFI := Lib.hid (show RPost w B b bs nest (replyS bs left i) (.panicked [{ v := faultR 30, recovered := false }]) wa from by rw [HS.out]; exact Or.inr ⟨by simp, rfl, nest, Gn.after HAL.out HA.out.gn⟩)
    clear hJ h43 h45 h58 h36 h42
    go_enter Tryd.func33, Tryd.ntmps33
    go_wp2_with fail
    try rw [hwa]
    clear hwa
    refine HNX.out.mono ?_
    rintro e w' ⟨rfl, rfl⟩
    go_wp2_with fail
    refine (HI.out.mono fun _ _ h => (⟨h.1, h.2.symm⟩ : _ ∧ wa = _)).mono ?_
    rintro e w' ⟨rfl, rfl⟩
    go_wp2
    exact ⟨rfl, HFI.out⟩

theorem numS_neg (bs : List UInt8) (i : Nat) : ((numS bs 1 (-1) i).2.2 = 0 → (numS bs 1 (-1) i).1 = -1) ∧ True := by
  refine ⟨fun q => ?_, trivial⟩
  by_cases h0 : bs.length ≤ i
  · have : numS bs 1 (-1) i = (0, (i, 31)) := by unfold numS; rw [if_pos h0]
    rw [this] at q; cases q
  · by_cases h45 : (bs.getD i 0).toNat = 45
    · exact (num_minus bs (-1) i h0 h45).2 q
    · have : numS bs 1 (-1) i = (0, (i, 30)) := by unfold numS; rw [if_neg h0, if_neg h45, if_pos (by decide)]
      rw [this] at q; cases q

set_option maxRecDepth 100000 in
set_option maxHeartbeats 16000000 in
theorem yarray_step (B b : Nat) (bs : List UInt8) (left nest i : Nat) (hln : left + nest = 8) (w : World) (h : InAt w B b bs i nest)
    (HREP : 0 < left → ∀ i w, InAt w B b bs i (nest + 1) → Calls Tryd.prog 33 #[.pointer (some ⟨B, 0, none⟩)] w (RPost w B b bs (nest + 1) (replyS bs (left - 1) i))) :
    Calls Tryd.prog 43 #[.pointer (some ⟨B, 0, none⟩)] w (RPost w B b bs nest (arrT bs left i)) := by
  have hB := h.hB
  have hb := h.hb
  have hn := h.ne
  have h6 : 6 ≤ w.heap.size := by have := h.six; omega
  have hal : Below w.heap.size w (w.alloc (.cells #[.int .i64 0, .string ⟨#[]⟩, .int .i64 0, .slice none 0 0] 25)) := (Below.refl _ _).alloc (Nat.le_refl _) _
  have hs : (w.alloc (.cells #[.int .i64 0, .string ⟨#[]⟩, .int .i64 0, .slice none 0 0] 25)).heap.size = w.heap.size + 1 := by simp
  obtain ⟨wa, hwa⟩ : ∃ wa, w.alloc (.cells #[.int .i64 0, .string ⟨#[]⟩, .int .i64 0, .slice none 0 0] 25) = wa := ⟨_, rfl⟩
  have hnew := World.alloc_heap_new w (.cells #[.int .i64 0, .string ⟨#[]⟩, .int .i64 0, .slice none 0 0] 25)
  rw [hwa] at hal hs hnew
  have HA := Lib.hid (h.below hal)
  have HAL := Lib.hid hal
  have HNEW := Lib.hid hnew
  have hza : wa.heap.size = w.heap.size + 1 := hs
  have HZA := Lib.hid hza
  have hla : w.heap.size < wa.heap.size := by omega
  obtain ⟨v, hv, hlv⟩ := HA.out.c0
  have hc1 := HA.out.c1
  have hf1 := HA.out.f1
  clear h hal hs hnew hza
  rcases left with _ | left
  · obtain rfl : nest = 8 := by omega
    obtain ⟨⟨N, X⟩, hNX⟩ : ∃ s, numS bs 1 (-1) i = s := ⟨_, rfl⟩
    have HS : Hid (arrT bs 0 i = (.node 7 [] 0 [], X)) := by show (RT.node 7 [] 0 [], (numS bs 1 (-1) i).2) = _; rw [hNX]
    have HNU := Lib.hid (ynumber_any B b v bs i 1 (-1) (-1) wa HA.out.hB HA.out.hb hn hv HA.out.f0 hlv rfl (by decide) (by decide) (by decide) (by decide) N X hNX)
    have HN1 : Hid (X.2 = 0 → N = -1) := by
      have := (numS_neg bs i).1
      rw [hNX] at this
      exact this
    obtain ⟨o, cap, rfl, _⟩ := hlv
    clear hNX HREP
    go_enter Tryd.func43, Tryd.ntmps43
    go_wp2_with fail
    try rw [hwa]
    clear hwa
    refine HNU.out.mono ?_
    rintro e w2 ⟨hres, v2, hv2, hp2⟩
    have HG2 := Lib.hid (HA.out.gn.put hp2 hv2)
    obtain ⟨⟨r0, r1, r2, r3⟩, s0, s1, s2, s3⟩ := box_kept HNEW.out hla HG2.out.grown hB
    clear hv2 hp2 HNU
    rcases hres with ⟨hs0, xx, rfl, rfl⟩ | ⟨hs1, hth⟩
    · have hN := HN1.out hs0
      subst hN
      go_wp2
      refine bodyPost_ret (v := leafV 7 ⟨#[]⟩ 0) ?_ rfl ?_
      · simp [results, Tryd.results43, go_sem, leafV, r0, r1, r2, r3]
      · rw [HS.out]
        exact Or.inl ⟨hs0, ⟨7, ⟨#[]⟩, 0, none, 0, 0, rfl, .leaf 7 [] 0 ⟨#[]⟩ rfl⟩, (Gn.after HAL.out HG2.out).box hB hb h6 _ _ _ _⟩
    · unfold ThrownR at hth
      have HFI := Lib.hid (show RPost w B b bs 8 (arrT bs 0 i) (.panicked [{ v := faultR X.2, recovered := false }]) w2 from by rw [HS.out]; exact Or.inr ⟨hs1, rfl, 8, Gn.after HAL.out HG2.out⟩)
      obtain ⟨F, hF⟩ : ∃ F : Value, faultR X.2 = F := ⟨_, rfl⟩
      rw [hF] at HFI hth
      clear hF
      subst hth
      go_wp2
      exact ⟨rfl, HFI.out⟩
  · have hn8 : ((nest : Int) == 8) = false := by rw [beq_eq_false_iff_ne]; omega
    obtain ⟨⟨N, X⟩, hNX⟩ : ∃ s, numS bs 1 131072 i = s := ⟨_, rfl⟩
    obtain ⟨q1, q2⟩ := count_num bs 131072 i
    have hNX' : numS bs 1 ((131072 : Nat) : Int) i = (N, X) := hNX
    rw [hNX'] at q1 q2
    have hrg := countS_range bs 131072 (i, 0)
    obtain ⟨f, hf⟩ : ∃ f, replyS bs left = f := ⟨_, rfl⟩
    have HSS : Hid (arrT bs (left + 1) i = if X.2 ≠ 0 ∨ N < 0 then (.node 7 [] 0 [], X) else (.node 6 [] 0 (timesS f N.toNat X).1, (timesS f N.toNat X).2)) := by
      show arrayS (replyS bs left) bs i = _
      rw [hf]
      unfold arrayS
      rw [← q1]
      show (if X.2 ≠ 0 ∨ _ < 0 then _ else _) = _
      by_cases hx : X.2 = 0
      · rw [← q2 hx]
      · rw [if_pos (Or.inl hx), if_pos (Or.inl hx)]
    have HNB : Hid (X.2 = 0 → N ≤ 131072) := fun q => by
      have h2 : N = _ := q2 q
      have h3 := hrg.2
      omega
    have HREPH := Lib.hid (fun i w hi => HREP (Nat.succ_pos _) i w hi)
    rw [show left + 1 - 1 = left from rfl, hf] at HREPH
    have HNU := Lib.hid (ynumber_any B b v bs i 1 (-1) 131072 wa HA.out.hB HA.out.hb hn hv HA.out.f0 hlv rfl (by decide) (by decide) (by decide) (by decide) N X hNX)
    obtain ⟨o, cap, rfl, _⟩ := hlv
    clear hNX hNX' q1 q2 hrg hf HREP
    go_enter Tryd.func43, Tryd.ntmps43
    go_wp2_with fail
    try rw [hwa]
    clear hwa
    refine HNU.out.mono ?_
    rintro e w2 ⟨hres, v2, hv2, hp2⟩
    have HG2 := Lib.hid (HA.out.gn.put hp2 hv2)
    clear hv2 hp2 HNU
    rcases hres with ⟨hs0, xx, rfl, rfl⟩ | ⟨hs1, hth⟩
    · by_cases hN : N < 0
      · have HS := Lib.hid (HSS.out.trans (if_pos (Or.inr hN)))
        obtain ⟨⟨r0, r1, r2, r3⟩, s0, s1, s2, s3⟩ := box_kept HNEW.out hla HG2.out.grown hB
        go_wp2
        refine bodyPost_ret (v := leafV 7 ⟨#[]⟩ 0) ?_ rfl ?_
        · simp [results, Tryd.results43, go_sem, leafV, r0, r1, r2, r3]
        · rw [HS.out]
          exact Or.inl ⟨hs0, ⟨7, ⟨#[]⟩, 0, none, 0, 0, rfl, .leaf 7 [] 0 ⟨#[]⟩ rfl⟩, (Gn.after HAL.out HG2.out).box hB hb h6 _ _ _ _⟩
      · obtain ⟨m, hm⟩ : ∃ m : Nat, N = (m : Int) := ⟨N.toNat, by omega⟩
        subst hm
        have hN0 : ¬ ((m : Int) < 0) := by omega
        have hm1 := HNB.out hs0
        have HS := Lib.hid (HSS.out.trans (if_neg (by rintro (q | q); exact q hs0; omega)))
        rw [Int.toNat_natCast] at HS
        have g1 := HG2.out.st.c1
        have g2 := HG2.out.st.f1
        have hs0' : X.2 = 0 := hs0
        obtain ⟨i2, e2⟩ := X
        obtain rfl : e2 = 0 := hs0'
        have HT0 := Lib.hid (TimesK.start f m (i2, 0))
        have hd := HG2.out.depth (nest + 1)
        rw [show ((nest + 1 : Nat) : Int) = (nest : Int) + 1 from by omega] at hd
        have HGD := Lib.hid (hd.below ((Below.refl _ _).alloc (Nat.le_refl _) (.cells #[.int .i64 6, .string ⟨#[]⟩, .int .i64 0, .slice none 0 0] 25)))
        have hA0 := arr_new (w2.setCell ⟨B, 1, none⟩ (.int .i64 ((nest : Int) + 1)))
        have hsz2 : (w2.setCell ⟨B, 1, none⟩ (.int .i64 ((nest : Int) + 1))).heap.size = w2.heap.size := by simp [World.setCell]
        rw [hsz2] at hA0
        have HA0 := Lib.hid hA0
        have hz2 := HG2.out.grown.size
        obtain ⟨NB, hNN⟩ : ∃ N, w2.heap.size = N := ⟨_, rfl⟩
        have hNN2 := hsz2
        rw [hNN] at HA0 hz2 hNN2
        obtain ⟨i0, hi0, hy0, hy1, hy2⟩ := info_parts info_reply
        have hBa : B < wa.heap.size := by omega
        have hba : b < wa.heap.size := by omega
        have h6a : 6 ≤ wa.heap.size := by omega
        clear hc1 hf1 hd hA0 hs0 hsz2
        go_wp2
        try rw [hNN2]
        try rw [hNN]
        clear hNN hNN2 g1 g2
        go_loopw [28] (fun iv wr => ∃ (k : Nat) (vr : Value) (rows : List (List Value)) (xs : List RT) (j : Nat), iv = .int .i64 k ∧ k ≤ m ∧ rows.length = k ∧ ArrAt wr NB vr rows ∧ (∀ r ∈ rows, r.length = 4) ∧ Gn wa B b bs j (nest + 1) wr ∧ Kids wr NB vr xs rows ∧ Hid (TimesK f m (i2, 0) k xs (j, 0))) (fun iv wr => m - (intOf iv).toNat)
        case atStart => exact ⟨0, _, [], [], i2, rfl, by omega, rfl, HA0.out, by simp, HGD.out, ⟨rfl, by simp⟩, HT0.out⟩
        case round =>
          obtain ⟨k, vr, rows, xs, j, rfl, hk, hrk, harr, h4, hw, hkid, HT⟩ := hrel
          have HARR := Lib.hid harr
          have HW := Lib.hid hw
          have HKID := Lib.hid hkid
          have H4 := Lib.hid h4
          have HRK := Lib.hid hrk
          have hNr := harr.lt
          have hown := harr.own
          rw [hrk] at hown
          obtain ⟨Ar, cr, rfl⟩ := ownsRow_form hown
          have HOWN := Lib.hid hown
          have hdp := hw.st.c1
          rw [show ((nest + 1 : Nat) : Int) = (nest : Int) + 1 from by omega] at hdp
          have hdf := hw.st.f1
          clear hkid h4 hrk hown HT0 HGD HA0
          by_cases hend : m ≤ k
          · have HD := Lib.hid (HT.out.done (Or.inl hend))
            have hnk : ¬ ((k : Int) < (m : Int)) := by omega
            have a0 := harr.c0
            have a1 := harr.c1
            have a2 := harr.c2
            have a3 := harr.c3
            have HGE := Lib.hid (hw.depth nest)
            obtain ⟨⟨r0, r1, r2, r3⟩, s0, s1, s2, s3⟩ := box_kept HNEW.out hla HGE.out.grown hB
            clear harr hw
            have HNB2 : Hid (w.heap.size < NB ∧ B < NB) := ⟨by omega, by omega⟩
            go_wp2
            refine bodyPost_ret (v := .agg #[.int .i64 6, .string ⟨#[]⟩, .int .i64 0, .slice Ar k cr]) ?_ rfl ?_
            · simp [results, Tryd.results43, go_sem, r0, r1, r2, r3]
            · rw [HS.out, HD.out]
              refine Or.inl ⟨rfl, ⟨6, ⟨#[]⟩, 0, Ar, k, cr, rfl, ?_⟩, (Gn.after HAL.out HGE.out).box hB hb h6 _ _ _ _⟩
              refine (HARR.out.tree H4.out HKID.out).keep (by simp [World.setCell]) (fun g h1 _ => by have := HNB2.out; omega) (fun g h1 _ => ?_)
              have hg : g ≠ w.heap.size := by have := HNB2.out; omega
              have hgB : g ≠ B := by have := HNB2.out; omega
              rw [Below.heap_setCell _ _ _ _ hg, Below.heap_setCell _ _ _ _ hg, Below.heap_setCell _ _ _ _ hg, Below.heap_setCell _ _ _ _ hg, Below.heap_setCell _ _ _ _ hgB]
          · have hkm : (k : Int) < (m : Int) := by omega
            have HM := Lib.hid (HT.out.more (by omega))
            have hc3 := harr.c3
            have hf3 := harr.f3
            have hRN : B < NB := by omega
            have hNE := Lib.hid harr.ne
            have HRD := Lib.hid hw.st
            have HRDD := Lib.hid (hw.st.below (Below.refl _ _).drew)
            have HD0 := Lib.hid ((Below.refl wr.heap.size wr).drew)
            by_cases hf0 : (f j).2.2 = 0
            · have HOK : Hid (∀ wq, InAt wq B b bs j (nest + 1) → Calls Tryd.prog 33 #[.pointer (some ⟨B, 0, none⟩)] wq fun e w4 => ∃ (K : Nat) (T : ByteArray) (nn : Int) (A4 : Option Addr) (l4 c4 : Nat), e = .returned (.agg #[.int .i64 K, .string T, .int .i64 nn, .slice A4 l4 c4]) ∧ RepAt w4 (fun g => wq.heap.size ≤ g) (f j).1 [.int .i64 K, .string T, .int .i64 nn, .slice A4 l4 c4] ∧ Gn wq B b bs (f j).2.1 (nest + 1) w4) := by
                intro wq hq
                refine (HREPH.out j wq hq).mono ?_
                rintro e w4 (⟨_, ⟨K, T, nn, A4, l4, c4, h1, h2⟩, h3⟩ | ⟨h1, _⟩)
                · exact ⟨K, T, nn, A4, l4, c4, h1, h2, h3⟩
                · exact absurd hf0 h1
              obtain ⟨p, e⟩ : ∃ p, (f j).2 = (p, 0) := ⟨(f j).2.1, by rw [← hf0]⟩
              have HFJ := Lib.hid e
              clear e hend harr hw
              go_wp2
              go_region_law (first
                | (go_simp; go_at_call 33; refine (HOK.out _ (by first | exact HRD.out | exact HRDD.out)).mono ?_; rintro en w4 ⟨K, T, nn, A4, l4, c4, rfl, hx, hw4⟩; have hwg : wr.grownBy w4 (some B) := (by first | exact hw4.grown | exact grown_below HD0.out hw4.grown); have HWG := Lib.hid hwg; have HX4 := Lib.hid (show RepAt w4 (fun g => wr.heap.size ≤ g) (f j).1 [.int .i64 K, .string T, .int .i64 nn, .slice A4 l4 c4] from hx); have HR4 := Lib.hid hw4.st; have q3 := (HARR.out.grown hwg hRN).c3; have qf := (HARR.out.grown hwg hRN).f3; have hO4 := (HARR.out.grown hwg hRN).own; rw [HRK.out] at hO4; have HO4 := Lib.hid hO4; have hz4 := hwg.size; have qa : (w4.alloc (.cells #[.int .i64 K, .string T, .int .i64 nn, .slice A4 l4 c4] 25)).cell? ⟨NB, 3, none⟩ = some (.slice Ar k cr) := (((Below.refl w4.heap.size w4).alloc (Nat.le_refl _) _).cell (p := ⟨NB, 3, none⟩) (by show NB < w4.heap.size; omega)).trans q3; clear hx hw4 hwg hO4)
                | (refine step_append_lies _ (by rfl) _ _ _ (by rfl) (NB + 1) 25 i0 _ 4 56 Tryd.underlying23 hi0 hy0 hy1 hy2 rfl (by omega) (.slice Ar k cr) k rows.flatten (by rfl) (by exact HO4.out.alloc _) ⟨w4.heap.size, 0, none⟩ 1 1 [.int .i64 K, .string T, .int .i64 nn, .slice A4 l4 c4] (by rfl) (by rfl) (World.news_of_block (cs := #[.int .i64 K, .string T, .int .i64 nn, .slice A4 l4 c4]) (t := 25) (fr := (0, 0)) (heap_alloc_new w4 _)) (by simp [Value.oneCell']) (by omega) (by unfold maxLen; omega) (by omega) (by simp; omega) (w4.heap.size + 1) (by simp) ?_; intro gg cc w5 hown5 hgrow hgg _; have hgf := grown_below (w := w4) ((Below.refl w4.heap.size w4).alloc (Nat.le_refl _) _) hgrow; have hbN := hgf.block NB (by omega) (fun e => hNE.out e.symm); have p3 := (World.cell?_of_block (a := ⟨NB, 3, none⟩) hbN).trans q3; have pf := (World.frozen?_of_block (a := ⟨NB, 3, none⟩) hbN).trans qf; have HGF := Lib.hid hgf; have HOX := Lib.hid hown5; have HGG := Lib.hid hgg; clear hgrow hgf hbN hown5 hgg))
              all_goals
                have hz5 := HGF.out.size
                have HARR2 := Lib.hid ((HARR.out.grown HWG.out hRN).more (cs := [.int .i64 K, .string T, .int .i64 nn, .slice A4 l4 c4]) HGF.out (by rw [HRK.out]; exact HOX.out))
                have HLT := Lib.hid (fun j (hj : (Value.slice Ar k cr).ownBlock = some j) => own_lt HOWN.out hj)
                have HW5 : Hid (Gn wa B b bs (f j).2.1 (nest + 1) (w5.setCell ⟨NB, 3, none⟩ (.slice (some ⟨gg, 0, none⟩) (k + 1) cc))) :=
                  ((HW.out.trans ⟨HR4.out, HWG.out⟩).grow hBa hba h6a HGF.out (fun j hj => by have := (HLT.out j hj).1; omega)).far _ _ hBa hba h6a (by show wa.heap.size ≤ NB; omega)
                have HKID2 : Hid (Kids (w5.setCell ⟨NB, 3, none⟩ (.slice (some ⟨gg, 0, none⟩) (k + 1) cc)) NB (.slice (some ⟨gg, 0, none⟩) (k + 1) cc) (xs ++ [(f j).1]) (rows ++ [[.int .i64 K, .string T, .int .i64 nn, .slice A4 l4 c4]])) := by
                  have hset : ∀ g, g ≠ NB → (w5.setCell ⟨NB, 3, none⟩ (.slice (some ⟨gg, 0, none⟩) (k + 1) cc)).heap[g]? = w5.heap[g]? := fun g hg => Below.heap_setCell _ _ _ _ hg
                  have hsz : (w5.setCell ⟨NB, 3, none⟩ (.slice (some ⟨gg, 0, none⟩) (k + 1) cc)).heap.size = w5.heap.size := by simp [World.setCell]
                  refine (HKID.out.grown HWG.out hRN).more (by omega) (fun g h1 h2 h3 => ?_) ?_ (HX4.out.keep (by omega) (fun g h1 h2 => ?_) (fun g h1 h2 => ?_))
                  · rw [hset g (by omega)]
                    exact HGF.out.block g h1 (fun e => h3 e.symm)
                  · rcases HGG.out with e | e
                    · exact Or.inl (e.trans rfl)
                    · exact Or.inr ⟨gg, rfl, by omega⟩
                  · have h1 : wr.heap.size ≤ g := h1
                    refine ⟨by omega, fun e => ?_⟩
                    have e : some gg = some g := e
                    injection e with e
                    rcases HGG.out with e2 | e2
                    · have := (HLT.out gg e2).2; omega
                    · omega
                  · have h1 : wr.heap.size ≤ g := h1
                    rw [hset g (by omega)]
                    exact HGF.out.block g h2 (fun e => by have := (HLT.out g e.symm).2; omega)
                have H42 : Hid (∀ r ∈ rows ++ [[.int .i64 K, .string T, .int .i64 nn, .slice A4 l4 c4]], r.length = 4) := by
                  intro r hr
                  rcases List.mem_append.1 hr with hr | hr
                  · exact H4.out r hr
                  · simp at hr; rw [hr]; rfl
                have HRK2 : Hid ((rows ++ [[Value.int .i64 K, .string T, .int .i64 nn, .slice A4 l4 c4]]).length = k + 1) := by unfold Hid; rw [List.length_append, HRK.out]; rfl
                clear p3 pf q3 qf qa
                go_wp2
                go_roundw
                case rel => exact ⟨k + 1, _, _, _, (f j).2.1, by go_num, by omega, HRK2.out, HARR2.out, H42.out, HW5.out, HKID2.out, by have := HM.out; rw [HFJ.out] at this ⊢; exact this⟩
                case measure => simp only [intOf]; omega
            · have HDN := Lib.hid (HM.out.done (Or.inr hf0))
              obtain ⟨F, hF⟩ : ∃ F : Value, faultR ((f j).2.2 : Nat) = F := ⟨_, rfl⟩
              have HBAD : Hid (Calls Tryd.prog 33 #[.pointer (some ⟨B, 0, none⟩)] wr.drew fun e w4 => e = .panicked [{ v := F, recovered := false }] ∧ RPost w B b bs nest (arrT bs (left + 1) i) (.panicked [{ v := F, recovered := false }]) w4) := by
                refine (HREPH.out j wr.drew HRDD.out).mono ?_
                rintro e w4 (⟨h1, _⟩ | ⟨_, h2, mm, h3⟩)
                · exact absurd h1 hf0
                · unfold ThrownR at h2
                  rw [hF] at h2
                  refine ⟨h2, ?_⟩
                  rw [HS.out, HDN.out]
                  refine Or.inr ⟨hf0, ?_, mm, Gn.after HAL.out (HW.out.trans (Gn.after (Below.refl _ _).drew h3))⟩
                  unfold ThrownR
                  rw [← hF]
              clear hF hend harr hw hf0
              go_wp2
              refine wp_region_any (by kernel_rfl) ?_
              change wpAny _ _ _ _ _ _ _ (World.drew _)
              refine wpAny_take (i := 0) (v := ?v0) rfl (by kernel_rfl) (by kernel_rfl) (by kernel_rfl) (fun _ _ _ h => h) (Or.inl ⟨by rfl, ?h0⟩) ?r0
              case h0 => (intro w; go_simp; try with_reducible rfl)
              refine wpAny_take (i := 2) (v := ?v2) rfl (by kernel_rfl) (by kernel_rfl) (by kernel_rfl) (fun _ _ _ h => h) (Or.inl ⟨by rfl, ?h2⟩) ?r2
              case h2 => (intro w; go_simp; try with_reducible rfl)
              refine wpAny_ready (rs := [1, 3]) (by kernel_rfl) (by simp) ?_
              refine AllReady.cons rfl (fun K hK => ?_) (AllReady.cons rfl (fun K hK => ?_) AllReady.nil)
              · go_simp
                refine hK _ _ ?_
                clear hK K
                refine wpAny_ready (rs := [3]) (by kernel_rfl) (by simp) ?_
                refine AllReady.cons rfl (fun K hK => ?_) AllReady.nil
                go_simp
                refine HBAD.out.mono ?_
                rintro e w4 ⟨rfl, hp4⟩
                exact ⟨rfl, hp4⟩
              · go_simp
                refine HBAD.out.mono ?_
                rintro e w4 ⟨rfl, hp4⟩
                exact ⟨rfl, hp4⟩
    · have HS := Lib.hid (HSS.out.trans (if_pos (Or.inl hs1)))
      unfold ThrownR at hth
      have HFI := Lib.hid (show RPost w B b bs nest (arrT bs (left + 1) i) (.panicked [{ v := faultR X.2, recovered := false }]) w2 from by rw [HS.out]; exact Or.inr ⟨hs1, rfl, nest, Gn.after HAL.out HG2.out⟩)
      obtain ⟨F, hF⟩ : ∃ F : Value, faultR X.2 = F := ⟨_, rfl⟩
      rw [hF] at HFI hth
      clear hF
      subst hth
      go_wp2
      exact ⟨rfl, HFI.out⟩

theorem yreply_all (B b : Nat) (bs : List UInt8) : ∀ (left nest : Nat) (_ : left + nest = 8) (i : Nat) (w : World) (_ : InAt w B b bs i nest),
    Calls Tryd.prog 33 #[.pointer (some ⟨B, 0, none⟩)] w (RPost w B b bs nest (replyS bs left i))
  | 0, nest, hln, i, w, h => yreply_step B b bs 0 nest i w h fun i w h => yarray_step B b bs 0 nest i hln w h fun h0 => absurd h0 (Nat.lt_irrefl 0)
  | left + 1, nest, hln, i, w, h => yreply_step B b bs (left + 1) nest i w h fun i w h => yarray_step B b bs (left + 1) nest i hln w h fun _ i w hi => yreply_all B b bs left (nest + 1) (by omega) i w hi

theorem assert_fault_y (f : Int) (w : World) (x : TypeId) : (Instr.typeAssert (faultR f) x 64 true).run Tryd.prog w = .ok (.tuple #[.int .i64 f, .bool true]) w := by
  simp [Instr.typeAssert, go_sem, faultR]

set_option maxRecDepth 100000 in
set_option maxHeartbeats 1000000 in
theorem yerrnoOf_fault (f : Int) (w : World) : Calls Tryd.prog 32 #[faultR f] w fun e w' => e = .returned (.int .i64 f) ∧ w = w' := by
  have hta := assert_fault_y f
  unfold faultR at hta ⊢
  go_enter Tryd.func32, Tryd.ntmps32
  go_wp2
  go_ret
  exact ⟨rfl, rfl⟩

set_option maxRecDepth 100000 in
set_option maxHeartbeats 2000000 in
theorem ydeferred_panic (T : Nat) (v0 : Value) (f : Int) (w : World) (hc : w.cell? ⟨T, 0, none⟩ = some v0) (hf : w.frozen? ⟨T, 0, none⟩ = false) :
    CallsD Tryd.prog 31 #[.pointer (some ⟨T, 0, none⟩)] (.panicking [{ v := faultR f, recovered := false }]) w fun e u' w' => e = .returned (.tuple #[]) ∧ u' = .panicking [{ v := faultR f, recovered := true }] ∧ w' = w.setCell ⟨T, 0, none⟩ (.int .i64 f) := by
  refine callsD_of_wpS Tryd.func31 rfl fun c₀ cs hu => ?_
  apply wpS_region
  simp [wpOpsS, go_sem, recoverD, hu, Tryd.ntmps31]
  refine (yerrnoOf_fault f w).mono ?_
  rintro e w' ⟨rfl, rfl⟩
  simp [go_sem, hc, hf, bodyPostS, results, Tryd.results31]

/-- What Decode tells of a reply that was read, or was not. -/
def outT (x : RT × (Nat × Nat)) : RT := if x.2.2 = 0 then x.1 else rt0

set_option maxRecDepth 100000 in
set_option maxHeartbeats 8000000 in
theorem ywhole_any (B b : Nat) (bs : List UInt8) (w : World) (h : InAt w B b bs 0 0) :
    Calls Tryd.prog 22 #[.pointer (some ⟨B, 0, none⟩)] w fun e w' => (∃ (k : Nat) (T : ByteArray) (z : Int) (A : Option Addr) (l c : Nat), e = .returned (.tuple #[.agg #[.int .i64 k, .string T, .int .i64 z, .slice A l c], .int .i64 (replyS bs 8 0).2.2]) ∧ RepAt w' (fun g => w.heap.size ≤ g) (outT (replyS bs 8 0)) [.int .i64 k, .string T, .int .i64 z, .slice A l c]) ∧ ∃ m, Gn w B b bs (replyS bs 8 0).2.1 m w' := by
  have hmf : ∀ (fn : Fn) (first cap : Array Value) (w : World), (Instr.makeFunc fn first cap).run Tryd.prog w = .ok (.func fn first cap) w := fun _ _ _ _ => rfl
  have hB := h.hB
  have hb := h.hb
  have h6 : 6 ≤ w.heap.size := by have := h.six; omega
  obtain ⟨w1, hw1⟩ : ∃ w1, w.alloc (.cells #[.int .i64 0, .string ⟨#[]⟩, .int .i64 0, .slice none 0 0] 25) = w1 := ⟨_, rfl⟩
  have hz1 : w1.heap.size = w.heap.size + 1 := by rw [← hw1]; simp
  have hb1 : Below w.heap.size w w1 := by rw [← hw1]; exact (Below.refl _ _).alloc (Nat.le_refl _) _
  have hn1 : w1.heap[w.heap.size]? = some (.cells #[.int .i64 0, .string ⟨#[]⟩, .int .i64 0, .slice none 0 0] 25) := by rw [← hw1]; exact World.alloc_heap_new w _
  obtain ⟨w2, hw2⟩ : ∃ w2, w1.alloc (.cells #[.int .i64 0] 27) = w2 := ⟨_, rfl⟩
  have hz2 : w2.heap.size = w.heap.size + 2 := by rw [← hw2, World.size_alloc, hz1]
  have hb2 : Below w1.heap.size w1 w2 := by rw [← hw2]; exact (Below.refl _ _).alloc (Nat.le_refl _) _
  have hn2 : w2.heap[w1.heap.size]? = some (.cells #[.int .i64 0] 27) := by rw [← hw2]; exact World.alloc_heap_new w1 _
  have hn12 := (hb2.block w.heap.size (by omega)).trans hn1
  rw [hz1] at hn2
  have hb12 : Below w.heap.size w w2 := hb1.trans (hb2.mono (by omega))
  have HA := Lib.hid (h.below hb12)
  have HB12 := Lib.hid hb12
  have HN1 := Lib.hid hn12
  have HN2 := Lib.hid hn2
  have HZ1 := Lib.hid hz1
  have HZ2 := Lib.hid hz2
  obtain ⟨x, hx⟩ : ∃ x, replyS bs 8 0 = x := ⟨_, rfl⟩
  have HR := Lib.hid (yreply_all B b bs 8 0 rfl 0 w2 HA.out)
  rw [hx] at HR ⊢
  clear hb1 hn1 hb2 hn2 hn12 hb12 hz2 h hx
  go_enter_defers Tryd.func22, Tryd.ntmps22
  go_wp2_with fail
  refine HR.out.mono ?_
  clear hw1 hw2 hz1
  rintro e w3 hres
  have hz1 := HZ1.out
  have hz2 := HZ2.out
  have hgr : w2.grownBy w3 (some B) := by rcases hres with ⟨_, _, hg⟩ | ⟨_, _, _, hg⟩ <;> exact hg.grown
  have hz3 := hgr.size
  have hne : ∀ (k : Nat), k ≠ B → (some B : Option Nat) ≠ some k := fun k h e => by injection e with e; exact h e.symm
  have b1 := hgr.block w.heap.size (by omega) (fun e => by injection e with e; omega)
  have b2 := hgr.block (w.heap.size + 1) (by omega) (fun e => by injection e with e; omega)
  have c1 := b1.trans HN1.out
  have c2 := b2.trans HN2.out
  have r0 : w3.cell? ⟨w.heap.size, 0, none⟩ = some (.int .i64 0) := cell_in c1
  have r1 : w3.cell? ⟨w.heap.size, 1, none⟩ = some (.string ⟨#[]⟩) := cell_in c1
  have r2 : w3.cell? ⟨w.heap.size, 2, none⟩ = some (.int .i64 0) := cell_in c1
  have r3 : w3.cell? ⟨w.heap.size, 3, none⟩ = some (.slice none 0 0) := cell_in c1
  have q0 : w3.cell? ⟨w.heap.size + 1, 0, none⟩ = some (.int .i64 0) := cell_in c2
  have s0 : w3.frozen? ⟨w.heap.size, 0, none⟩ = false := mark_in c1
  have s1 : w3.frozen? ⟨w.heap.size, 1, none⟩ = false := mark_in c1
  have s2 : w3.frozen? ⟨w.heap.size, 2, none⟩ = false := mark_in c1
  have s3 : w3.frozen? ⟨w.heap.size, 3, none⟩ = false := mark_in c1
  have t0 : w3.frozen? ⟨w.heap.size + 1, 0, none⟩ = false := mark_in c2
  clear b1 b2 c1 c2 hne HR hz1 hz2
  rcases hres with ⟨hs0, ⟨K, T, z, A', l, cc, rfl, hx⟩, hg⟩ | ⟨hs1, hth, m, hg⟩
  · have HX := Lib.hid hx
    have HG := Lib.hid (Gn.after HB12.out hg)
    clear hx hg
    go_wp2
    obtain ⟨Y, hY⟩ : ∃ Y, ((((w3.setCell ⟨w.heap.size, 0, none⟩ (.int .i64 K)).setCell ⟨w.heap.size, 1, none⟩ (.string T)).setCell ⟨w.heap.size, 2, none⟩ (.int .i64 z)).setCell ⟨w.heap.size, 3, none⟩ (.slice A' l cc)).setCell ⟨w.heap.size + 1, 0, none⟩ (.int .i64 0) = Y := ⟨_, rfl⟩
    have x0 : Y.cell? ⟨w.heap.size, 0, none⟩ = some (.int .i64 K) := by rw [← hY]; simp [go_sem, r0]
    have x1 : Y.cell? ⟨w.heap.size, 1, none⟩ = some (.string T) := by rw [← hY]; simp [go_sem, r1]
    have x2 : Y.cell? ⟨w.heap.size, 2, none⟩ = some (.int .i64 z) := by rw [← hY]; simp [go_sem, r2]
    have x3 : Y.cell? ⟨w.heap.size, 3, none⟩ = some (.slice A' l cc) := by rw [← hY]; simp [go_sem, r3]
    have x4 : Y.cell? ⟨w.heap.size + 1, 0, none⟩ = some (.int .i64 0) := by rw [← hY]; simp [go_sem, q0]
    have x5 : Y.frozen? ⟨w.heap.size + 1, 0, none⟩ = false := by rw [← hY]; simp [go_sem, t0]
    have HGY : Hid (Gn w B b bs x.2.1 0 (Y.setCell ⟨w.heap.size + 1, 0, none⟩ (.int .i64 0))) := by
      rw [← hY]
      exact ((HG.out.box hB hb h6 _ _ _ _).far _ _ hB hb h6 (Nat.le_succ _)).far _ _ hB hb h6 (Nat.le_succ _)
    have HXY : Hid (RepAt (Y.setCell ⟨w.heap.size + 1, 0, none⟩ (.int .i64 0)) (fun g => w.heap.size ≤ g) x.1 [.int .i64 K, .string T, .int .i64 z, .slice A' l cc]) := by
      rw [← hY]
      refine HX.out.keep (by simp [World.setCell]) (fun g h1 _ => by have h1 : w2.heap.size ≤ g := h1; have := HZ2.out; omega) (fun g h1 _ => ?_)
      have h1 : w2.heap.size ≤ g := h1
      have := HZ2.out
      have hg : g ≠ w.heap.size := by omega
      have hg2 : g ≠ w.heap.size + 1 := by omega
      rw [Below.heap_setCell _ _ _ _ hg2, Below.heap_setCell _ _ _ _ hg2, Below.heap_setCell _ _ _ _ hg, Below.heap_setCell _ _ _ _ hg, Below.heap_setCell _ _ _ _ hg, Below.heap_setCell _ _ _ _ hg]
    rw [hY]
    clear hY r0 r1 r2 r3 q0 s0 s1 s2 s3 t0
    refine leaves_cons (f := 31) (args := #[.pointer (some ⟨w.heap.size + 1, 0, none⟩)]) (by simp) (by simp [go_sem]) ?_
    refine (ydeferred_ret (w.heap.size + 1) (.int .i64 0) Y x4 x5).mono ?_
    rintro e u' w'' ⟨rfl, rfl, rfl⟩
    simp [Leaves, settle, results, Tryd.results22, go_sem, x0, x1, x2, x3, x4]
    exact ⟨⟨K, T, z, A', l, cc, ⟨⟨rfl, rfl, rfl, rfl, rfl, rfl⟩, by omega⟩, by unfold outT; rw [if_pos hs0]; exact HXY.out⟩, 0, HGY.out⟩
  · unfold ThrownR at hth
    subst hth
    have HG := Lib.hid (Gn.after HB12.out hg)
    clear hg
    go_wp2
    refine leaves_cons (f := 31) (args := #[.pointer (some ⟨w.heap.size + 1, 0, none⟩)]) (by simp) (by simp [go_sem]) ?_
    refine (ydeferred_panic (w.heap.size + 1) (.int .i64 0) x.2.2 w3 q0 t0).mono ?_
    rintro e u' w'' ⟨rfl, rfl, rfl⟩
    simp [Leaves, settle, results, Tryd.results22, go_sem, r0, r1, r2, r3, q0]
    exact ⟨⟨0, ⟨#[]⟩, 0, none, 0, 0, ⟨rfl, rfl, rfl, rfl, rfl, rfl⟩, by unfold outT; rw [if_neg hs1]; exact .leaf 0 [] 0 ⟨#[]⟩ rfl⟩, m, HG.out.far _ _ hB hb h6 (Nat.le_succ _)⟩

theorem LeftV.slice {w : World} {b : Nat} {v : Value} {l : List UInt8} (h : LeftV w b v l) : ∃ A c, v = .slice A l.length c := by
  obtain ⟨o, c, h, _⟩ := h
  exact ⟨_, c, h⟩

set_option maxRecDepth 100000 in
set_option maxHeartbeats 8000000 in
theorem ydecode_some (b o cap : Nat) (bs : List UInt8) (w : World) (h6 : 6 ≤ w.heap.size) (hb : b < w.heap.size) (hat : BytesAt w b o bs) (hcl : bs.length ≤ cap) (hcm : cap ≤ 9223372036854775807) (hT : Tabs8 w) (hpl : (replyS bs 8 0).2.1 ≤ bs.length) :
    Calls Tryd.prog 13 #[.slice (some ⟨b, o, none⟩) bs.length cap] w fun en w' => Below w.heap.size w w' ∧ ∃ (k : Nat) (T : ByteArray) (n : Int) (A' : Option Addr) (l c : Nat),
      en = .returned (.tuple #[.agg #[.int .i64 k, .string T, .int .i64 n, .slice A' l c], .int .i64 (replyS bs 8 0).2.1, .int .i64 (replyS bs 8 0).2.2]) ∧
      RepAt w' (fun g => w.heap.size ≤ g) (outT (replyS bs 8 0)) [.int .i64 k, .string T, .int .i64 n, .slice A' l c] := by
  obtain ⟨w1, hw1⟩ : ∃ w1, w.alloc (.cells #[.int .i64 0, .string ⟨#[]⟩, .int .i64 0, .slice none 0 0] 25) = w1 := ⟨_, rfl⟩
  have hz1 : w1.heap.size = w.heap.size + 1 := by rw [← hw1]; simp
  have hb1 : Below w.heap.size w w1 := by rw [← hw1]; exact (Below.refl _ _).alloc (Nat.le_refl _) _
  have hn1 : w1.heap[w.heap.size]? = some (.cells #[.int .i64 0, .string ⟨#[]⟩, .int .i64 0, .slice none 0 0] 25) := by rw [← hw1]; exact World.alloc_heap_new w _
  obtain ⟨w2, hw2⟩ : ∃ w2, w1.alloc (.cells #[.slice (some ⟨b, o, none⟩) bs.length cap, .int .i64 0] 50) = w2 := ⟨_, rfl⟩
  have hz2 : w2.heap.size = w.heap.size + 2 := by rw [← hw2, World.size_alloc, hz1]
  have hb2 : Below w1.heap.size w1 w2 := by rw [← hw2]; exact (Below.refl _ _).alloc (Nat.le_refl _) _
  have hn2 : w2.heap[w1.heap.size]? = some (.cells #[.slice (some ⟨b, o, none⟩) bs.length cap, .int .i64 0] 50) := by rw [← hw2]; exact World.alloc_heap_new w1 _
  have hn12 := (hb2.block w.heap.size (by omega)).trans hn1
  rw [hz1] at hn2
  have hb12 : Below w.heap.size w w2 := hb1.trans (hb2.mono (by omega))
  have hin : InAt w2 (w.heap.size + 1) b bs 0 0 := ⟨⟨_, (cell_in hn2).trans rfl, by rw [List.drop_zero]; exact ⟨o, cap, rfl, hcl, hcm, hat.below hb12 hb⟩⟩, (cell_in hn2).trans rfl, mark_in hn2, mark_in hn2, by omega, by omega, by omega, by omega, hT.below hb12 h6⟩
  have HR := Lib.hid (ywhole_any (w.heap.size + 1) b bs w2 hin)
  obtain ⟨tr, hO⟩ : ∃ t, outT (replyS bs 8 0) = t := ⟨_, rfl⟩
  obtain ⟨p, hP⟩ : ∃ p, (replyS bs 8 0).2.1 = p := ⟨_, rfl⟩
  obtain ⟨f, hF⟩ : ∃ f, (replyS bs 8 0).2.2 = f := ⟨_, rfl⟩
  rw [hO, hP, hF] at HR ⊢
  rw [hP] at hpl
  have HB12 := Lib.hid hb12
  have HN1 := Lib.hid hn12
  have HZ2 := Lib.hid hz2
  have HW1 := Lib.hid hw1
  have HW2 := Lib.hid hw2
  clear hb1 hn1 hb2 hn2 hn12 hb12 hz2 hw1 hw2 hz1 hin hO hP hF
  go_enter Tryd.func13, Tryd.ntmps13
  go_wp2_with fail
  rw [HW1.out, HW2.out]
  refine HR.out.mono ?_
  rintro e w3 ⟨⟨K, T, z, A', l, cc, rfl, hx⟩, m, hg⟩
  have hz2 := HZ2.out
  have hz3 := hg.grown.size
  obtain ⟨v3, hc3, hl3⟩ := hg.st.c0
  obtain ⟨A3, c3, rfl⟩ := hl3.slice
  have hlen : (bs.drop p).length = bs.length - p := List.length_drop
  have c1 := (hg.grown.block w.heap.size (by omega) (fun e => by injection e with e; omega)).trans HN1.out
  have r0 : w3.cell? ⟨w.heap.size, 0, none⟩ = some (.int .i64 0) := cell_in c1
  have r1 : w3.cell? ⟨w.heap.size, 1, none⟩ = some (.string ⟨#[]⟩) := cell_in c1
  have r2 : w3.cell? ⟨w.heap.size, 2, none⟩ = some (.int .i64 0) := cell_in c1
  have r3 : w3.cell? ⟨w.heap.size, 3, none⟩ = some (.slice none 0 0) := cell_in c1
  have s0 : w3.frozen? ⟨w.heap.size, 0, none⟩ = false := mark_in c1
  have s1 : w3.frozen? ⟨w.heap.size, 1, none⟩ = false := mark_in c1
  have s2 : w3.frozen? ⟨w.heap.size, 2, none⟩ = false := mark_in c1
  have s3 : w3.frozen? ⟨w.heap.size, 3, none⟩ = false := mark_in c1
  have HBW : Hid (Below w.heap.size w w3) := HB12.out.trans ⟨hg.grown.os, hg.grown.tape, hg.grown.output, hg.grown.size, fun k hk => hg.grown.block k (by omega) (fun e => by injection e with e; omega)⟩
  have HX : Hid (RepAt w3 (fun g => w.heap.size + 2 ≤ g) tr [.int .i64 K, .string T, .int .i64 z, .slice A' l cc]) := hx.weak (fun g h1 _ => by have h1 : w2.heap.size ≤ g := h1; omega)
  have hlt3 : w.heap.size < w3.heap.size := by omega
  have hlt4 : w.heap.size + 1 < w3.heap.size := by omega
  obtain ⟨R, hRR⟩ : ∃ R, (bs.drop p).length = R := ⟨_, rfl⟩
  rw [hRR] at hc3 hlen
  have hpn : (bs.length : Int) - (R : Int) = (p : Int) := by omega
  have hRle : R ≤ bs.length := by omega
  clear hg hl3 c1 hx HR hz2 hz3 hlen hRR
  go_wp2
  go_region
  all_goals
    go_wp2
    obtain ⟨Z, hZ⟩ : ∃ Z, (((w3.setCell ⟨w.heap.size, 0, none⟩ (.int .i64 K)).setCell ⟨w.heap.size, 1, none⟩ (.string T)).setCell ⟨w.heap.size, 2, none⟩ (.int .i64 z)).setCell ⟨w.heap.size, 3, none⟩ (.slice A' l cc) = Z := ⟨_, rfl⟩
    have zs : Z.heap.size = w3.heap.size := by rw [← hZ]; simp [World.setCell]
    have x0 : Z.cell? ⟨w.heap.size, 0, none⟩ = some (.int .i64 K) := by rw [← hZ]; simp [go_sem, r0]
    have x1 : Z.cell? ⟨w.heap.size, 1, none⟩ = some (.string T) := by rw [← hZ]; simp [go_sem, r1]
    have x2 : Z.cell? ⟨w.heap.size, 2, none⟩ = some (.int .i64 z) := by rw [← hZ]; simp [go_sem, r2]
    have x3 : Z.cell? ⟨w.heap.size, 3, none⟩ = some (.slice A' l cc) := by rw [← hZ]; simp [go_sem, r3]
    have hbz : Below w.heap.size w Z := by rw [← hZ]; exact (((HBW.out.setCell (Nat.le_refl _) _).setCell (Nat.le_refl _) _).setCell (Nat.le_refl _) _).setCell (Nat.le_refl _) _
    have hrz : RepAt Z (fun g => w.heap.size + 2 ≤ g) tr [.int .i64 K, .string T, .int .i64 z, .slice A' l cc] := by
      refine HX.out.keep (by rw [zs]; exact Nat.le_refl _) (fun _ h1 _ => h1) (fun g h1 _ => ?_)
      have h1 : w.heap.size + 2 ≤ g := h1
      have hg : g ≠ w.heap.size := by omega
      rw [← hZ, Below.heap_setCell _ _ _ _ hg, Below.heap_setCell _ _ _ _ hg, Below.heap_setCell _ _ _ _ hg, Below.heap_setCell _ _ _ _ hg]
    rw [hZ]
    have hbo : Below w.heap.size w (Z.alloc (.cells #[.int .i64 K, .string T, .int .i64 z, .slice A' l cc] 25)) := hbz.alloc (by omega) _
    have hro : RepAt (Z.alloc (.cells #[.int .i64 K, .string T, .int .i64 z, .slice A' l cc] 25)) (fun g => w.heap.size ≤ g) tr [.int .i64 K, .string T, .int .i64 z, .slice A' l cc] :=
      hrz.keep (by simp) (fun g h1 _ => by have h1 : w.heap.size + 2 ≤ g := h1; omega) (fun g _ h2 => ((Below.refl Z.heap.size Z).alloc (Nat.le_refl _) _).block g h2)
    have y0 := (World.cell?_alloc_lt Z (.cells #[.int .i64 K, .string T, .int .i64 z, .slice A' l cc] 25) ⟨w.heap.size, 0, none⟩ (by show w.heap.size < Z.heap.size; omega)).trans x0
    have y1 := (World.cell?_alloc_lt Z (.cells #[.int .i64 K, .string T, .int .i64 z, .slice A' l cc] 25) ⟨w.heap.size, 1, none⟩ (by show w.heap.size < Z.heap.size; omega)).trans x1
    have y2 := (World.cell?_alloc_lt Z (.cells #[.int .i64 K, .string T, .int .i64 z, .slice A' l cc] 25) ⟨w.heap.size, 2, none⟩ (by show w.heap.size < Z.heap.size; omega)).trans x2
    have y3 := (World.cell?_alloc_lt Z (.cells #[.int .i64 K, .string T, .int .i64 z, .slice A' l cc] 25) ⟨w.heap.size, 3, none⟩ (by show w.heap.size < Z.heap.size; omega)).trans x3
    refine bodyPost_ret (v := .tuple #[.agg #[.int .i64 K, .string T, .int .i64 z, .slice A' l cc], .int .i64 p, .int .i64 f]) ?_ rfl ⟨by first | exact hbo.drew | exact hbo, K, T, z, A', l, cc, rfl, by first | exact hro | exact hro.keep (Nat.le_refl _) (fun _ h1 _ => h1) (fun _ _ _ => rfl)⟩
    simp [results, Tryd.results13, go_sem, y0, y1, y2, y3]

set_option maxRecDepth 100000 in
set_option maxHeartbeats 1000000 in
theorem ynext_none (B : Nat) (A : Option Addr) (cap : Nat) (w : World) (hc : w.cell? ⟨B, 0, none⟩ = some (.slice A 0 cap)) :
    Calls Tryd.prog 37 #[.pointer (some ⟨B, 0, none⟩)] w fun e w' => ThrownR 31 e ∧ w = w' := by
  go_enter Tryd.func37, Tryd.ntmps37
  go_wp2
  exact ⟨rfl, rfl, rfl⟩

set_option maxRecDepth 100000 in
set_option maxHeartbeats 2000000 in
theorem yreply_none (B : Nat) (A : Option Addr) (cap : Nat) (w : World) (hB : B < w.heap.size) (hc : w.cell? ⟨B, 0, none⟩ = some (.slice A 0 cap)) :
    Calls Tryd.prog 33 #[.pointer (some ⟨B, 0, none⟩)] w fun e w' => ThrownR 31 e ∧ Below w.heap.size w w' := by
  have hal : Below w.heap.size w (w.alloc (.cells #[.int .i64 0, .string ⟨#[]⟩, .int .i64 0, .slice none 0 0] 25)) := (Below.refl _ _).alloc (Nat.le_refl _) _
  obtain ⟨wa, hwa⟩ : ∃ wa, w.alloc (.cells #[.int .i64 0, .string ⟨#[]⟩, .int .i64 0, .slice none 0 0] 25) = wa := ⟨_, rfl⟩
  rw [hwa] at hal
  have HN := Lib.hid (ynext_none B A cap wa ((hal.cell (p := ⟨B, 0, none⟩) hB).trans hc))
  have HAL := Lib.hid hal
  clear hal hc
  go_enter Tryd.func33, Tryd.ntmps33
  go_wp2_with fail
  try rw [hwa]
  clear hwa
  refine HN.out.mono ?_
  rintro e w' ⟨rfl, rfl⟩
  go_wp2
  exact ⟨rfl, rfl, HAL.out⟩

set_option maxRecDepth 100000 in
set_option maxHeartbeats 8000000 in
theorem ywhole_none (B : Nat) (A : Option Addr) (cap : Nat) (w : World) (hB : B < w.heap.size) (hc : w.cell? ⟨B, 0, none⟩ = some (.slice A 0 cap)) :
    Calls Tryd.prog 22 #[.pointer (some ⟨B, 0, none⟩)] w fun e w' => e = .returned (.tuple #[leafV 0 ⟨#[]⟩ 0, .int .i64 31]) ∧ Below w.heap.size w w' := by
  have hmf : ∀ (fn : Fn) (first cap : Array Value) (w : World), (Instr.makeFunc fn first cap).run Tryd.prog w = .ok (.func fn first cap) w := fun _ _ _ _ => rfl
  obtain ⟨w1, hw1⟩ : ∃ w1, w.alloc (.cells #[.int .i64 0, .string ⟨#[]⟩, .int .i64 0, .slice none 0 0] 25) = w1 := ⟨_, rfl⟩
  have hz1 : w1.heap.size = w.heap.size + 1 := by rw [← hw1]; simp
  have hb1 : Below w.heap.size w w1 := by rw [← hw1]; exact (Below.refl _ _).alloc (Nat.le_refl _) _
  have hn1 : w1.heap[w.heap.size]? = some (.cells #[.int .i64 0, .string ⟨#[]⟩, .int .i64 0, .slice none 0 0] 25) := by rw [← hw1]; exact World.alloc_heap_new w _
  obtain ⟨w2, hw2⟩ : ∃ w2, w1.alloc (.cells #[.int .i64 0] 27) = w2 := ⟨_, rfl⟩
  have hz2 : w2.heap.size = w.heap.size + 2 := by rw [← hw2, World.size_alloc, hz1]
  have hb2 : Below w1.heap.size w1 w2 := by rw [← hw2]; exact (Below.refl _ _).alloc (Nat.le_refl _) _
  have hn2 : w2.heap[w1.heap.size]? = some (.cells #[.int .i64 0] 27) := by rw [← hw2]; exact World.alloc_heap_new w1 _
  have hn12 := (hb2.block w.heap.size (by omega)).trans hn1
  rw [hz1] at hn2
  have hb12 : Below w.heap.size w w2 := hb1.trans (hb2.mono (by omega))
  have HB12 := Lib.hid hb12
  have HN1 := Lib.hid hn12
  have HN2 := Lib.hid hn2
  have HZ1 := Lib.hid hz1
  have HZ2 := Lib.hid hz2
  have HR := Lib.hid (yreply_none B A cap w2 (by omega) ((hb12.cell (p := ⟨B, 0, none⟩) hB).trans hc))
  clear hb1 hn1 hb2 hn2 hn12 hb12 hz2 hc
  go_enter_defers Tryd.func22, Tryd.ntmps22
  go_wp2_with fail
  refine HR.out.mono ?_
  clear hw1 hw2 hz1
  rintro e w3 ⟨hth, hb3⟩
  have hz2 := HZ2.out
  have hz3 := hb3.size
  have c1 := (hb3.block w.heap.size (by omega)).trans HN1.out
  have c2 := (hb3.block (w.heap.size + 1) (by omega)).trans HN2.out
  have r0 : w3.cell? ⟨w.heap.size, 0, none⟩ = some (.int .i64 0) := cell_in c1
  have r1 : w3.cell? ⟨w.heap.size, 1, none⟩ = some (.string ⟨#[]⟩) := cell_in c1
  have r2 : w3.cell? ⟨w.heap.size, 2, none⟩ = some (.int .i64 0) := cell_in c1
  have r3 : w3.cell? ⟨w.heap.size, 3, none⟩ = some (.slice none 0 0) := cell_in c1
  have q0 : w3.cell? ⟨w.heap.size + 1, 0, none⟩ = some (.int .i64 0) := cell_in c2
  have t0 : w3.frozen? ⟨w.heap.size + 1, 0, none⟩ = false := mark_in c2
  have HBW := Lib.hid (HB12.out.trans (hb3.mono (by omega)))
  unfold ThrownR at hth
  subst hth
  clear c1 c2 HR hb3
  go_wp2
  refine leaves_cons (f := 31) (args := #[.pointer (some ⟨w.heap.size + 1, 0, none⟩)]) (by simp) (by simp [go_sem]) ?_
  refine (ydeferred_panic (w.heap.size + 1) (.int .i64 0) 31 w3 q0 t0).mono ?_
  rintro e u' w'' ⟨rfl, rfl, rfl⟩
  simp [Leaves, settle, results, Tryd.results22, go_sem, r0, r1, r2, r3, q0, leafV]
  exact HBW.out.setCell (Nat.le_succ _) _

set_option maxRecDepth 100000 in
set_option maxHeartbeats 8000000 in
theorem ydecode_none (A : Option Addr) (cap : Nat) (w : World) :
    Calls Tryd.prog 13 #[.slice A 0 cap] w fun en w' => Below w.heap.size w w' ∧ en = .returned (.tuple #[leafV 0 ⟨#[]⟩ 0, .int .i64 0, .int .i64 31]) := by
  obtain ⟨w1, hw1⟩ : ∃ w1, w.alloc (.cells #[.int .i64 0, .string ⟨#[]⟩, .int .i64 0, .slice none 0 0] 25) = w1 := ⟨_, rfl⟩
  have hz1 : w1.heap.size = w.heap.size + 1 := by rw [← hw1]; simp
  have hb1 : Below w.heap.size w w1 := by rw [← hw1]; exact (Below.refl _ _).alloc (Nat.le_refl _) _
  have hn1 : w1.heap[w.heap.size]? = some (.cells #[.int .i64 0, .string ⟨#[]⟩, .int .i64 0, .slice none 0 0] 25) := by rw [← hw1]; exact World.alloc_heap_new w _
  obtain ⟨w2, hw2⟩ : ∃ w2, w1.alloc (.cells #[.slice A 0 cap, .int .i64 0] 50) = w2 := ⟨_, rfl⟩
  have hz2 : w2.heap.size = w.heap.size + 2 := by rw [← hw2, World.size_alloc, hz1]
  have hb2 : Below w1.heap.size w1 w2 := by rw [← hw2]; exact (Below.refl _ _).alloc (Nat.le_refl _) _
  have hn2 : w2.heap[w1.heap.size]? = some (.cells #[.slice A 0 cap, .int .i64 0] 50) := by rw [← hw2]; exact World.alloc_heap_new w1 _
  have hn12 := (hb2.block w.heap.size (by omega)).trans hn1
  rw [hz1] at hn2
  have hb12 : Below w.heap.size w w2 := hb1.trans (hb2.mono (by omega))
  have hcB : w2.cell? ⟨w.heap.size + 1, 0, none⟩ = some (.slice A 0 cap) := (cell_in hn2).trans rfl
  have HR := Lib.hid (ywhole_none (w.heap.size + 1) A cap w2 (by omega) hcB)
  have HB12 := Lib.hid hb12
  have HN1 := Lib.hid hn12
  have HCB := Lib.hid hcB
  have HZ2 := Lib.hid hz2
  have HW1 := Lib.hid hw1
  have HW2 := Lib.hid hw2
  clear hb1 hn1 hb2 hn2 hn12 hb12 hz2 hw1 hw2 hz1 hcB
  go_enter Tryd.func13, Tryd.ntmps13
  go_wp2_with fail
  rw [HW1.out, HW2.out]
  refine HR.out.mono ?_
  rintro e w3 ⟨rfl, hb3⟩
  have hz2 := HZ2.out
  have hz3 := hb3.size
  have hc3 := (hb3.cell (p := ⟨w.heap.size + 1, 0, none⟩) (by show w.heap.size + 1 < w2.heap.size; omega)).trans HCB.out
  have c1 := (hb3.block w.heap.size (by omega)).trans HN1.out
  have r0 : w3.cell? ⟨w.heap.size, 0, none⟩ = some (.int .i64 0) := cell_in c1
  have r1 : w3.cell? ⟨w.heap.size, 1, none⟩ = some (.string ⟨#[]⟩) := cell_in c1
  have r2 : w3.cell? ⟨w.heap.size, 2, none⟩ = some (.int .i64 0) := cell_in c1
  have r3 : w3.cell? ⟨w.heap.size, 3, none⟩ = some (.slice none 0 0) := cell_in c1
  have s0 : w3.frozen? ⟨w.heap.size, 0, none⟩ = false := mark_in c1
  have s1 : w3.frozen? ⟨w.heap.size, 1, none⟩ = false := mark_in c1
  have s2 : w3.frozen? ⟨w.heap.size, 2, none⟩ = false := mark_in c1
  have s3 : w3.frozen? ⟨w.heap.size, 3, none⟩ = false := mark_in c1
  have HBW := Lib.hid (HB12.out.trans (hb3.mono (by omega)))
  have hlt3 : w.heap.size < w3.heap.size := by omega
  have hlt4 : w.heap.size + 1 < w3.heap.size := by omega
  clear c1 HR hz2 hz3 hb3
  unfold leafV
  go_wp2
  go_region
  all_goals
    go_wp2
    obtain ⟨Z, hZ⟩ : ∃ Z, (((w3.setCell ⟨w.heap.size, 0, none⟩ (.int .i64 0)).setCell ⟨w.heap.size, 1, none⟩ (.string ⟨#[]⟩)).setCell ⟨w.heap.size, 2, none⟩ (.int .i64 0)).setCell ⟨w.heap.size, 3, none⟩ (.slice none 0 0) = Z := ⟨_, rfl⟩
    have zs : Z.heap.size = w3.heap.size := by rw [← hZ]; simp [World.setCell]
    have x0 : Z.cell? ⟨w.heap.size, 0, none⟩ = some (.int .i64 0) := by rw [← hZ]; simp [go_sem, r0]
    have x1 : Z.cell? ⟨w.heap.size, 1, none⟩ = some (.string ⟨#[]⟩) := by rw [← hZ]; simp [go_sem, r1]
    have x2 : Z.cell? ⟨w.heap.size, 2, none⟩ = some (.int .i64 0) := by rw [← hZ]; simp [go_sem, r2]
    have x3 : Z.cell? ⟨w.heap.size, 3, none⟩ = some (.slice none 0 0) := by rw [← hZ]; simp [go_sem, r3]
    have hbz : Below w.heap.size w Z := by rw [← hZ]; exact (((HBW.out.setCell (Nat.le_refl _) _).setCell (Nat.le_refl _) _).setCell (Nat.le_refl _) _).setCell (Nat.le_refl _) _
    rw [hZ]
    have hbo : Below w.heap.size w (Z.alloc (.cells #[.int .i64 0, .string ⟨#[]⟩, .int .i64 0, .slice none 0 0] 25)) := hbz.alloc (by omega) _
    have y0 := (World.cell?_alloc_lt Z (.cells #[.int .i64 0, .string ⟨#[]⟩, .int .i64 0, .slice none 0 0] 25) ⟨w.heap.size, 0, none⟩ (by show w.heap.size < Z.heap.size; omega)).trans x0
    have y1 := (World.cell?_alloc_lt Z (.cells #[.int .i64 0, .string ⟨#[]⟩, .int .i64 0, .slice none 0 0] 25) ⟨w.heap.size, 1, none⟩ (by show w.heap.size < Z.heap.size; omega)).trans x1
    have y2 := (World.cell?_alloc_lt Z (.cells #[.int .i64 0, .string ⟨#[]⟩, .int .i64 0, .slice none 0 0] 25) ⟨w.heap.size, 2, none⟩ (by show w.heap.size < Z.heap.size; omega)).trans x2
    have y3 := (World.cell?_alloc_lt Z (.cells #[.int .i64 0, .string ⟨#[]⟩, .int .i64 0, .slice none 0 0] 25) ⟨w.heap.size, 3, none⟩ (by show w.heap.size < Z.heap.size; omega)).trans x3
    refine bodyPost_ret (v := .tuple #[leafV 0 ⟨#[]⟩ 0, .int .i64 0, .int .i64 31]) ?_ rfl ⟨by first | exact hbo.drew | exact hbo, rfl⟩
    simp [results, Tryd.results13, go_sem, y0, y1, y2, y3, leafV]

theorem mustS_le {bs : List UInt8} {c : Nat} {s : Nat × Nat} (h : s.1 ≤ bs.length) : (mustS bs c s).1 ≤ bs.length := by
  unfold mustS
  split
  · split
    · exact h
    · split
      · show s.1 + 1 ≤ _; omega
      · exact h
  · exact h

theorem endS_le {bs : List UInt8} {s : Nat × Nat} (h : s.1 ≤ bs.length) : (endS bs s).1 ≤ bs.length := mustS_le (mustS_le h)

theorem digL_cnt (most : Nat) : ∀ (l : List UInt8) (n : Nat) (f : Bool), (digL most n f l).2.1 ≤ l.length
  | [], n, f => by simp [digL]
  | c :: r, n, f => by
    rw [digL]
    split
    · have := digL_cnt most r (n * 10 + (c.toNat - 48)) false
      simp only [List.length_cons]
      omega
    · simp

theorem digS_pl {bs : List UInt8} {most : Nat} {s : Nat × Nat} (h : s.1 ≤ bs.length) : (digS bs most s).2.1 ≤ bs.length := by
  unfold digS
  split
  · have := digL_cnt most (bs.drop s.1) 0 true
    rw [List.length_drop] at this
    show s.1 + _ ≤ _
    omega
  · exact h

theorem byteS_pl (bs : List UInt8) (s : Nat × Nat) : (byteS bs s).2.1 = s.1 := by
  unfold byteS
  split
  · split <;> rfl
  · rfl

theorem byte_in {bs : List UInt8} {s : Nat × Nat} {c : Nat} (hc : 0 < c) (h : (byteS bs s).1 = c) : s.1 < bs.length := (byteS_some (i := s.1) (e := s.2) hc h).2.1

theorem countS_pl {bs : List UInt8} {most : Nat} {s : Nat × Nat} (h : s.1 ≤ bs.length) : (countS bs most s).2.1 ≤ bs.length := by
  unfold countS
  split
  · rename_i g
    exact mustS_le (by have := byte_in (by decide) g; show s.1 + 1 ≤ _; omega)
  · exact digS_pl (by rw [byteS_pl]; exact h)

theorem integerS_pl {bs : List UInt8} {s : Nat × Nat} (h : s.1 ≤ bs.length) : (integerS bs s).2.1 ≤ bs.length := by
  unfold integerS
  split
  · rename_i g
    have h1 := byte_in (by decide) g
    split
    · unfold failS
      split
      · show s.1 + 1 ≤ _; omega
      · show s.1 + 1 ≤ _; omega
    · exact digS_pl (by rw [byteS_pl]; show s.1 + 1 ≤ _; omega)
  · exact digS_pl (by rw [byteS_pl]; exact h)

theorem textS_pl {bs : List UInt8} {i : Nat} (h : i ≤ bs.length) : (textS bs i).1 ≤ bs.length := by
  rw [(textS_end bs i).1]
  have := (lineN_le (bs.drop i)).1
  rw [List.length_drop] at this
  exact endS_le (by show i + _ ≤ _; omega)

theorem dblkS_pl {bs : List UInt8} {i : Nat} (h : i ≤ bs.length) : (dblkS bs i).2.1 ≤ bs.length := by
  unfold dblkS
  have h1 : (endS bs (countS bs 65536 (i, 0)).2).1 ≤ bs.length := endS_le (countS_pl h)
  split
  · exact h1
  · split
    · exact Nat.le_refl _
    · rename_i g1 g2
      exact endS_le (by show _ + _ ≤ _; omega)

theorem timesS_pl {bs : List UInt8} {f : Nat → RT × (Nat × Nat)} (hf : ∀ j, j ≤ bs.length → (f j).2.1 ≤ bs.length) : ∀ (n : Nat) (s : Nat × Nat), s.1 ≤ bs.length → (timesS f n s).2.1 ≤ bs.length
  | 0, s, h => h
  | n + 1, s, h => by
    rw [timesS]
    split
    · exact timesS_pl hf n _ (hf _ h)
    · exact h

theorem arrayS_pl {bs : List UInt8} {f : Nat → RT × (Nat × Nat)} (hf : ∀ j, j ≤ bs.length → (f j).2.1 ≤ bs.length) {i : Nat} (h : i ≤ bs.length) : (arrayS f bs i).2.1 ≤ bs.length := by
  unfold arrayS
  have h1 : (endS bs (countS bs 131072 (i, 0)).2).1 ≤ bs.length := endS_le (countS_pl h)
  split
  · exact h1
  · exact timesS_pl hf _ _ h1

theorem replyS_pl (bs : List UInt8) : ∀ (left i : Nat), i ≤ bs.length → (replyS bs left i).2.1 ≤ bs.length := by
  intro left
  induction left with
  | zero =>
    intro i h
    by_cases hl : bs.length ≤ i
    · rw [replyS_short bs 0 i hl]; exact h
    · rw [replyS_eq bs 0 i _ hl rfl]
      split
      · exact textS_pl (by omega)
      · split
        · exact textS_pl (by omega)
        · split
          · exact endS_le (integerS_pl (by show i + 1 ≤ _; omega))
          · split
            · exact dblkS_pl (by omega)
            · split
              · exact endS_le (mustS_le (mustS_le (by show i + 1 ≤ _; omega)))
              · exact h
  | succ l ih =>
    intro i h
    by_cases hl : bs.length ≤ i
    · rw [replyS_short bs (l + 1) i hl]; exact h
    · rw [replyS_eq bs (l + 1) i _ hl rfl]
      split
      · exact textS_pl (by omega)
      · split
        · exact textS_pl (by omega)
        · split
          · exact endS_le (integerS_pl (by show i + 1 ≤ _; omega))
          · split
            · exact dblkS_pl (by omega)
            · split
              · exact arrayS_pl ih (by omega)
              · exact h

theorem decS_eq (bs : List UInt8) : (decS bs).1 = outT (replyS bs 8 0) ∧ (decS bs).2 = (replyS bs 8 0).2 := by
  unfold decS outT
  split <;> exact ⟨rfl, rfl⟩

theorem ydecode_any (A : Option Addr) (b o cap : Nat) (bs : List UInt8) (w : World) (h6 : 6 ≤ w.heap.size) (hA : 0 < bs.length → A = some ⟨b, o, none⟩) (hb : 0 < bs.length → b < w.heap.size) (hat : BytesAt w b o bs) (hcl : bs.length ≤ cap) (hcm : cap ≤ 9223372036854775807) (hT : Tabs8 w) :
    Calls Tryd.prog 13 #[.slice A bs.length cap] w fun en w' => Below w.heap.size w w' ∧ ∃ (k : Nat) (T : ByteArray) (n : Int) (A' : Option Addr) (l c : Nat),
      en = .returned (.tuple #[.agg #[.int .i64 k, .string T, .int .i64 n, .slice A' l c], .int .i64 (decS bs).2.1, .int .i64 (decS bs).2.2]) ∧
      RepAt w' (fun g => w.heap.size ≤ g) (decS bs).1 [.int .i64 k, .string T, .int .i64 n, .slice A' l c] := by
  obtain ⟨e1, e2⟩ := decS_eq bs
  rw [e1, e2]
  cases bs with
  | nil =>
    refine (ydecode_none A cap w).mono ?_
    rintro e w' ⟨h1, rfl⟩
    refine ⟨h1, 0, ⟨#[]⟩, 0, none, 0, 0, ?_, ?_⟩
    · rw [replyS_short [] 8 0 (Nat.le_refl _)]; rfl
    · rw [replyS_short [] 8 0 (Nat.le_refl _)]; exact .leaf 0 [] 0 ⟨#[]⟩ rfl
  | cons x r =>
    obtain rfl := hA (by simp)
    exact ydecode_some b o cap (x :: r) w h6 (hb (by simp)) hat hcl hcm hT (replyS_pl _ 8 0 (Nat.zero_le _))

end Go.Proofs.YtbldahkgilkclaaDoor
