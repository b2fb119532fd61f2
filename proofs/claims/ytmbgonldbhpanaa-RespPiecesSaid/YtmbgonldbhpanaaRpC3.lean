/-
  The walk of the statement RespBegins: it answers true. Conditions: the bytes lie in memory as a slice that reads as them.
-/
import Derived.Test.YtmbgonldbhpanaaRpM
namespace Go.Proofs.Ytmbgonldbhpanaa
open Go.RowKit

theorem u16_wf {n : Int} (h : (Lit.int .u16 n).wf = true) : 0 ≤ n ∧ n ≤ 65535 := by
  simp only [Lit.wf, IntKind.min, IntKind.max, IntKind.signed, IntKind.bits, Bool.and_eq_true] at h
  simpa using h

/-- A row of requests, and the beginning of another that holds the same. -/
theorem rsame_prefix (w : World) (base base' : Nat) (v : Value) (A : Option Addr) (c : Nat) (L M : List (List (List UInt8))) (h : OwnsReqs w base v L) (h' : OwnsReqs w base' (.slice A (L ++ M).length c) (L ++ M)) (hb : L.length ≤ 1099511627776) (hr : ∀ r ∈ L, r.length ≤ 1024) :
    Calls Try.prog 12 #[v, .slice A L.length c] w fun e w' => e = .returned (.bool true) ∧ ∃ q, w' = w.drewN q := by
  obtain ⟨vs, h1, h2, h3⟩ := h
  obtain ⟨vs', h1', h2', h3'⟩ := h'
  obtain ⟨A1, c1, rfl⟩ := ownsRow_form h2
  by_cases h0 : L = []
  · subst h0
    exact rsame_nil A1 A c1 c w
  · have hl0 : 0 < L.length := List.length_pos_iff.2 h0
    have hlm : (L ++ M).length = L.length + M.length := List.length_append
    rcases h2.2 with ⟨_, h4⟩ | ⟨g, cap, cur, h4, _⟩
    · omega
    rcases h2'.2 with ⟨_, h4'⟩ | ⟨g', cap', cur', h4', _⟩
    · omega
    simp only [Value.slice.injEq, true_and] at h4 h4'
    obtain ⟨rfl, rfl⟩ := h4
    obtain ⟨rfl, rfl⟩ := h4'
    refine rsame_eq g 0 g' 0 c1 c vs (vs'.take L.length) L w h1 (by rw [List.length_take, h1', hlm]; omega) hb (fun i r hi => by have := hr r (List.mem_of_getElem? hi); omega) ?_ ?_ ?_ ?_
    · intro j u hu
      have := h2.cells (g := g) rfl j u hu
      rwa [Go.WideShapes.add_plain] at this
    · intro j u hu
      have hj : j < L.length := by
        have := (List.getElem?_eq_some_iff.1 hu).1
        rw [List.length_take] at this
        omega
      rw [List.getElem?_take, if_pos hj] at hu
      have := h2'.cells (g := g') rfl j u hu
      rwa [Go.WideShapes.add_plain] at this
    · intro i u r hu hr
      have := h3 i u r hu hr
      exact SliceAt.of_own (by rw [List.length_map]; exact this)
    · intro i u r hu hr
      have hi : i < L.length := (List.getElem?_eq_some_iff.1 hr).1
      rw [List.getElem?_take, if_pos hi] at hu
      have := h3' i u r hu (by rw [List.getElem?_append_left hi]; exact hr)
      exact SliceAt.of_own (by rw [List.length_map]; exact this)

theorem str_cases (F : List UInt8) : F = [] ∨ (0 < (⟨F.toArray⟩ : ByteArray).size ∧ F ≠ []) := by
  cases F with
  | nil => exact Or.inl rfl
  | cons c F => exact Or.inr ⟨by show 0 < (c :: F).toArray.size; simp, by simp⟩

set_option maxRecDepth 100000 in
set_option maxHeartbeats 4000000 in
theorem respBegins_some (b o cap : Nat) (l : List UInt8) (n : Int) (w : World) (hl : l.length ≤ cap) (hcap : cap ≤ 9223372036854775807) (hb : b < w.heap.size) (hc : BytesAt w b o l) (hn0 : 0 ≤ n) (hn1 : n ≤ 65535) :
    Calls Try.prog 6 #[.slice (some ⟨b, o, none⟩) l.length cap, .int .u16 n] w fun e w' => e = .returned (.bool true) ∧ Below w.heap.size w w' := by
  have HC := Lib.hid hc
  have HCUT := Lib.hid (fun W => cut_any b o cap l W hl hcap)
  have hx : (l.take 300000).length = min 300000 l.length := List.length_take
  have hct := hc.take 300000
  have HCT := Lib.hid hct
  obtain ⟨x, hxx⟩ : ∃ x, l.take 300000 = x := ⟨_, rfl⟩
  rw [hxx] at HCUT HCT hx
  have hx1 : x.length ≤ cap := by omega
  have hx2 : x.length ≤ 1099511627776 := by omega
  obtain ⟨k, hk⟩ : ∃ k, min n.toNat x.length = k := ⟨_, rfl⟩
  have hmin : min n (x.length : Int) = (k : Int) := by omega
  have hkx : k ≤ x.length := by omega
  have hpl : (x.take k).length = k := by rw [List.length_take]; omega
  have HAP := Lib.hid (splitS_append (x.take k) (x.drop k))
  rw [List.take_append_drop] at HAP
  have hrows := splitS_rows (x.take k)
  obtain ⟨S', hS'⟩ : ∃ S, splitS (x.take k) = S := ⟨_, rfl⟩
  obtain ⟨L', n', F'⟩ := S'
  obtain ⟨M, N2, F, hSx⟩ : ∃ (M : List (List (List UInt8))) (N2 : Nat) (F : List UInt8), splitS x = (L' ++ M, n' + N2, F) ∧ (F' ≠ [] → F = F') := by
    have h := HAP.out.2
    rw [hS'] at h
    dsimp only at h
    by_cases hF : F' = []
    · rw [if_pos hF] at h
      exact ⟨_, _, _, h, fun e => absurd hF e⟩
    · rw [if_neg hF] at h
      exact ⟨[], 0, F', by rw [h, List.append_nil, Nat.add_zero], fun _ => rfl⟩
  obtain ⟨hSx, hFF⟩ := hSx
  rw [hS'] at hrows
  have HSP := Lib.hid (fun W (hb' : Below w.heap.size w W) => psplit_any b o cap x W hx1 hcap hx2 (Nat.lt_of_lt_of_le hb hb'.size) (HCT.out.below hb' hb))
  have HSQ := Lib.hid (fun W (hb' : Below w.heap.size w W) => psplit_any b o cap (x.take k) W (by omega) hcap (by omega) (Nat.lt_of_lt_of_le hb hb'.size) ((HCT.out.take k).below hb' hb))
  rw [hSx] at HSP
  rw [hS', hpl] at HSQ
  have HROW := Lib.hid hrows
  have HFF := Lib.hid hFF
  have HPL := Lib.hid hpl
  have HAW := Lib.hid (awake_any w)
  clear hc hct hx hS' hSx hrows hxx hl HAP hFF hpl hk
  go_enter Try.func6, Try.ntmps6
  go_wp2_with fail
  refine HAW.out.mono ?_
  rintro e w0 ⟨rfl, hb0⟩
  have HB0 := Lib.hid hb0
  clear hb0
  go_wp2_with fail
  refine (HCUT.out w0).mono ?_
  rintro e w' ⟨rfl, rfl⟩
  go_wp2_with fail
  refine (HSP.out _ HB0.out).mono ?_
  rintro e w1 ⟨hb1, vl, rfl, hvl⟩
  have HB1 := Lib.hid (HB0.out.trans (hb1.mono HB0.out.size))
  have HVL := Lib.hid hvl
  obtain ⟨A1, c1, rfl⟩ := hvl.len
  have hcap1 : L'.length + M.length ≤ c1 ∧ c1 ≤ 9223372036854775807 := by
    obtain ⟨vs, _, h2, _⟩ := hvl
    rw [← List.length_append]
    rcases h2.2 with ⟨h3, h4⟩ | ⟨g, cap', cur, h3, _, _, h4, h5, _⟩
    · simp only [Value.slice.injEq] at h3
      have h4' : (L' ++ M).length = 0 := h4
      omega
    · simp only [Value.slice.injEq, true_and] at h3
      unfold maxLen at h5
      have h4' : (L' ++ M).length ≤ cap' := h4
      omega
  have hA1 : A1 = none ∧ L'.length = 0 ∧ M.length = 0 ∧ c1 = 0 ∨ ∃ g, A1 = some ⟨g, 0, none⟩ := by
    obtain ⟨vs, _, h2, _⟩ := hvl
    rcases h2.2 with ⟨h3, h4⟩ | ⟨g, cap', cur, h3, _⟩
    · simp only [Value.slice.injEq] at h3
      have h4' : (L' ++ M).length = 0 := h4
      rw [List.length_append] at h4'
      exact Or.inl ⟨h3.1, by omega, by omega, h3.2.2⟩
    · simp only [Value.slice.injEq, true_and] at h3
      exact Or.inr ⟨g, h3.1⟩
  obtain ⟨q1, q2⟩ := hcap1
  clear hvl hb1
  dsimp only
  rw [List.length_append]
  go_wp2_with fail
  refine (HSQ.out _ HB1.out).mono ?_
  rintro e w2 ⟨hb2, vs, rfl, hvs⟩
  have HB2 := Lib.hid (HB1.out.trans (hb2.mono HB1.out.size))
  have HVS := Lib.hid hvs
  have HVL2 := Lib.hid (HVL.out.below hb2)
  obtain ⟨A2, c2, rfl⟩ := hvs.len
  have hSA : Calls Try.prog 12 #[.slice A2 L'.length c2, .slice A1 L'.length c1] w2 fun e w' => e = .returned (.bool true) ∧ ∃ q, w' = w2.drewN q :=
    rsame_prefix w2 _ _ _ A1 c1 L' M hvs HVL2.out (by have := HROW.out.1; have := HPL.out; omega) (fun r hr => (HROW.out.2 r hr).2)
  have HSA := Lib.hid hSA
  clear hvs hb2 hSA
  dsimp only
  have fin : ∀ (q : Nat) (w3 : World) , Below w.heap.size w (w2.drewN q) := fun q _ => below_drewN HB2.out q
  have HFI := Lib.hid fin
  clear fin
  rcases str_cases F' with hF0 | ⟨hT0, hF0⟩
  · subst hF0
    rcases hA1 with ⟨rfl, z1, z2, rfl⟩ | ⟨g, rfl⟩
    · rw [z1] at HSA ⊢
      rw [z2]
      clear z1 z2 q1
      go_wp2_with fail
      refine HSA.out.mono ?_
      rintro e w3 ⟨rfl, q, rfl⟩
      go_wp2_with fail
      refine (HSP.out _ (HFI.out q w2)).mono ?_
      rintro e w4 ⟨hb4, vl4, rfl, _⟩
      have HFIN := Lib.hid ((HFI.out q w2).trans (hb4.mono (HFI.out q w2).size))
      clear hb4
      go_wp2
      go_ret
      exact ⟨rfl, HFIN.out⟩
    · go_wp2_with fail
      refine HSA.out.mono ?_
      rintro e w3 ⟨rfl, q, rfl⟩
      go_wp2_with fail
      refine (HSP.out _ (HFI.out q w2)).mono ?_
      rintro e w4 ⟨hb4, vl4, rfl, _⟩
      have HFIN := Lib.hid ((HFI.out q w2).trans (hb4.mono (HFI.out q w2).size))
      clear hb4
      go_wp2
      go_ret
      exact ⟨rfl, HFIN.out⟩
  · have hFe : F = F' := HFF.out hF0
    subst hFe
    obtain ⟨T, hT⟩ : ∃ T : ByteArray, ⟨F.toArray⟩ = T := ⟨_, rfl⟩
    rw [hT] at hT0
    obtain ⟨j1, j2, j3, _⟩ := toList_cons T hT0
    have HTT := Lib.hid hT
    rw [hT]
    clear hT hF0
    rcases hA1 with ⟨rfl, z1, z2, rfl⟩ | ⟨g, rfl⟩
    · rw [z1] at HSA ⊢
      rw [z2]
      clear z1 z2 q1
      go_wp2_with fail
      refine HSA.out.mono ?_
      rintro e w3 ⟨rfl, q, rfl⟩
      go_wp2_with fail
      refine (HSP.out _ (HFI.out q w2)).mono ?_
      rintro e w4 ⟨hb4, vl4, rfl, _⟩
      have HFIN := Lib.hid ((HFI.out q w2).trans (hb4.mono (HFI.out q w2).size))
      rw [show (⟨((L' ++ M, n' + N2, F) : List (List (List UInt8)) × Nat × List UInt8).2.2.toArray⟩ : ByteArray) = T from HTT.out]
      clear hb4
      go_wp2
      go_ret
      exact ⟨rfl, HFIN.out⟩
    · go_wp2_with fail
      refine HSA.out.mono ?_
      rintro e w3 ⟨rfl, q, rfl⟩
      go_wp2_with fail
      refine (HSP.out _ (HFI.out q w2)).mono ?_
      rintro e w4 ⟨hb4, vl4, rfl, _⟩
      have HFIN := Lib.hid ((HFI.out q w2).trans (hb4.mono (HFI.out q w2).size))
      rw [show (⟨((L' ++ M, n' + N2, F) : List (List (List UInt8)) × Nat × List UInt8).2.2.toArray⟩ : ByteArray) = T from HTT.out]
      clear hb4
      go_wp2
      go_ret
      exact ⟨rfl, HFIN.out⟩

set_option maxRecDepth 100000 in
set_option maxHeartbeats 4000000 in
theorem respBegins_none (A : Option Addr) (cap : Nat) (n : Int) (w : World) (hA : A = none → cap = 0) (hcap : cap ≤ 9223372036854775807) (hn0 : 0 ≤ n) (hn1 : n ≤ 65535) :
    Calls Try.prog 6 #[.slice A 0 cap, .int .u16 n] w fun e w' => e = .returned (.bool true) ∧ Below w.heap.size w w' := by
  have hmin : min n 0 = 0 := by omega
  have HAW := Lib.hid (awake_any w)
  rcases A with _ | a
  · obtain rfl := hA rfl
    go_enter Try.func6, Try.ntmps6
    go_wp2_with fail
    refine HAW.out.mono ?_
    rintro e w0 ⟨rfl, hb0⟩
    have HB0 := Lib.hid hb0
    clear hb0
    go_wp2_with fail
    refine (cut_short _ 0 _ w0 (by omega)).mono ?_
    rintro e w' ⟨rfl, rfl⟩
    go_wp2_with fail
    refine (psplit_empty _ _ w0).mono ?_
    rintro e w1 ⟨hb1, vl, rfl, hvl⟩
    have HB1 := Lib.hid (HB0.out.trans (hb1.mono HB0.out.size))
    obtain ⟨A1, c1, rfl⟩ := hvl.len
    have hA1 : A1 = none ∧ c1 = 0 ∨ ∃ g, A1 = some ⟨g, 0, none⟩ := by
      obtain ⟨vs, _, h2, _⟩ := hvl
      rcases h2.2 with ⟨h3, h4⟩ | ⟨g, cap', cur, h3, _⟩
      · simp only [Value.slice.injEq] at h3
        exact Or.inl ⟨h3.1, h3.2.2⟩
      · simp only [Value.slice.injEq, true_and] at h3
        exact Or.inr ⟨g, h3.1⟩
    have hc1 : c1 ≤ 9223372036854775807 := by
      obtain ⟨vs, _, h2, _⟩ := hvl
      rcases h2.2 with ⟨h3, h4⟩ | ⟨g, cap', cur, h3, _, _, h4, h5, _⟩
      · simp only [Value.slice.injEq] at h3
        omega
      · simp only [Value.slice.injEq, true_and] at h3
        unfold maxLen at h5
        omega
    clear hvl hb1
    simp only [List.length_nil]
    go_wp2_with fail
    refine (psplit_empty _ _ w1).mono ?_
    rintro e w2 ⟨hb2, vs, rfl, hvs⟩
    have HB2 := Lib.hid (HB1.out.trans (hb2.mono HB1.out.size))
    obtain ⟨A2, c2, rfl⟩ := hvs.len
    have HSA := Lib.hid (fun x y => rsame_nil A2 x c2 y w2)
    clear hvs hb2
    simp only [List.length_nil]
    rcases hA1 with ⟨rfl, rfl⟩ | ⟨g, rfl⟩
    all_goals
      go_wp2_with fail
      refine (HSA.out _ _).mono ?_
      rintro e w3 ⟨rfl, q, rfl⟩
      go_wp2_with fail
      refine (psplit_empty _ _ (w2.drewN q)).mono ?_
      rintro e w4 ⟨hb4, vl4, rfl, _⟩
      have HFIN := Lib.hid ((below_drewN HB2.out q).trans (hb4.mono (by show w.heap.size ≤ w2.heap.size; exact HB2.out.size)))
      clear hb4
      go_wp2
      go_ret
      exact ⟨rfl, HFIN.out⟩
  · clear hA
    go_enter Try.func6, Try.ntmps6
    go_wp2_with fail
    refine HAW.out.mono ?_
    rintro e w0 ⟨rfl, hb0⟩
    have HB0 := Lib.hid hb0
    clear hb0
    go_wp2_with fail
    refine (cut_short _ 0 _ w0 (by omega)).mono ?_
    rintro e w' ⟨rfl, rfl⟩
    go_wp2_with fail
    refine (psplit_empty _ _ w0).mono ?_
    rintro e w1 ⟨hb1, vl, rfl, hvl⟩
    have HB1 := Lib.hid (HB0.out.trans (hb1.mono HB0.out.size))
    obtain ⟨A1, c1, rfl⟩ := hvl.len
    have hA1 : A1 = none ∧ c1 = 0 ∨ ∃ g, A1 = some ⟨g, 0, none⟩ := by
      obtain ⟨vs, _, h2, _⟩ := hvl
      rcases h2.2 with ⟨h3, h4⟩ | ⟨g, cap', cur, h3, _⟩
      · simp only [Value.slice.injEq] at h3
        exact Or.inl ⟨h3.1, h3.2.2⟩
      · simp only [Value.slice.injEq, true_and] at h3
        exact Or.inr ⟨g, h3.1⟩
    have hc1 : c1 ≤ 9223372036854775807 := by
      obtain ⟨vs, _, h2, _⟩ := hvl
      rcases h2.2 with ⟨h3, h4⟩ | ⟨g, cap', cur, h3, _, _, h4, h5, _⟩
      · simp only [Value.slice.injEq] at h3
        omega
      · simp only [Value.slice.injEq, true_and] at h3
        unfold maxLen at h5
        omega
    clear hvl hb1
    simp only [List.length_nil]
    go_wp2_with fail
    refine (psplit_empty _ _ w1).mono ?_
    rintro e w2 ⟨hb2, vs, rfl, hvs⟩
    have HB2 := Lib.hid (HB1.out.trans (hb2.mono HB1.out.size))
    obtain ⟨A2, c2, rfl⟩ := hvs.len
    have HSA := Lib.hid (fun x y => rsame_nil A2 x c2 y w2)
    clear hvs hb2
    simp only [List.length_nil]
    rcases hA1 with ⟨rfl, rfl⟩ | ⟨g, rfl⟩
    all_goals
      go_wp2_with fail
      refine (HSA.out _ _).mono ?_
      rintro e w3 ⟨rfl, q, rfl⟩
      go_wp2_with fail
      refine (psplit_empty _ _ (w2.drewN q)).mono ?_
      rintro e w4 ⟨hb4, vl4, rfl, _⟩
      have HFIN := Lib.hid ((below_drewN HB2.out q).trans (hb4.mono (by show w.heap.size ≤ w2.heap.size; exact HB2.out.size)))
      clear hb4
      go_wp2
      go_ret
      exact ⟨rfl, HFIN.out⟩

end Go.Proofs.Ytmbgonldbhpanaa
