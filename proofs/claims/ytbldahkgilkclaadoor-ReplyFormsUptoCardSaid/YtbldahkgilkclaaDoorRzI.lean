/-
  The walk of package reply's line, at any bytes. Conditions: what is left lies in memory as a slice that reads as its bytes; the decoder's two tables hold what their own text lays; the search's own measure holds a number.
-/
import Derived.Test.YtbldahkgilkclaaDoorRzG
import Derived.Test.YtbldahkgilkclaaDoorRzC
namespace Go.Proofs.YtbldahkgilkclaaDoor
open Go.RowKit

theorem bindex_any (b o cap : Nat) (l : List UInt8) (w : World) (hb : b < w.heap.size) (h6 : 6 ≤ w.heap.size) (hl : BytesAt w b o l) (hm : l.length ≤ 65536) (hcap : l.length ≤ cap) (hT : Tabs8 w) :
    Calls Tryd.prog 50 #[.slice (some ⟨b, o, none⟩) l.length cap, .string ⟨#[13, 10]⟩] w (CrPost l w) := by
  by_cases h1 : l.length = 1
  · match l, h1 with
    | [c], _ => exact bindex_one b o cap c w hl
  · by_cases h8 : l.length ≤ 8
    · exact bindex_short b o cap l w hb h6 hl h1 h8 hcap hT
    · exact bindex_long b o cap l w hb hl (by omega) hm

/-- How many bytes a line's text has, by what the search tells. -/
def lineN (L : List UInt8) (m : Nat) : Nat := if 0 ≤ Lib.indexAny (L.take m) crlf then (Lib.indexAny (L.take m) crlf).toNat else min L.length m

theorem lineN_cons (c : UInt8) (r : List UInt8) (m : Nat) (h : crlf.contains c = false) : lineN (c :: r) (m + 1) = lineN r m + 1 := by
  unfold lineN
  rw [List.take_succ_cons, List.length_cons]
  have hge := Lib.indexAny_ge crlf (r.take m)
  have he : Lib.indexAny (c :: r.take m) crlf = if Lib.indexAny (r.take m) crlf == -1 then -1 else Lib.indexAny (r.take m) crlf + 1 := by
    rw [Lib.indexAny, h]; rfl
  by_cases hq : Lib.indexAny (r.take m) crlf = -1
  · rw [he, hq]; simp
  · have hb : (Lib.indexAny (r.take m) crlf == -1) = false := by rw [beq_eq_false_iff_ne]; exact hq
    simp only [hb, Bool.false_eq_true, if_false] at he
    rw [he, if_pos (by omega), if_pos (by omega)]; omega

theorem indexAny_lt (cs : List UInt8) : ∀ l : List UInt8, 0 ≤ Lib.indexAny l cs → Lib.indexAny l cs < (l.length : Int)
  | [], h => by simp [Lib.indexAny] at h
  | c :: r, h => by
    rw [Lib.indexAny] at h ⊢
    rw [List.length_cons]
    cases hq : cs.contains c with
    | true => simp only [if_true]; omega
    | false =>
      rw [hq] at h
      simp only [Bool.false_eq_true, if_false] at h ⊢
      by_cases hb : Lib.indexAny r cs = -1
      · rw [hb] at h; simp at h
      · have hb2 : (Lib.indexAny r cs == -1) = false := by rw [beq_eq_false_iff_ne]; exact hb
        have hge := Lib.indexAny_ge cs r
        have := indexAny_lt cs r (by omega)
        simp only [hb2, Bool.false_eq_true, if_false]
        omega

theorem crlf_no {c : UInt8} (h1 : c.toNat ≠ 13) (h2 : c.toNat ≠ 10) : crlf.contains c = false := by
  cases hq : crlf.contains c with
  | false => rfl
  | true =>
    exfalso
    simp [crlf] at hq
    rcases hq with hq | hq
    · subst hq; exact h1 rfl
    · subst hq; exact h2 rfl

theorem crlf_yes {c : UInt8} (h : c.toNat = 13 ∨ c.toNat = 10) : crlf.contains c = true := by
  rcases h with h | h
  · rw [u8_eq (k := 13) (by decide) h]; rfl
  · rw [u8_eq (k := 10) (by decide) h]; rfl

theorem scan_n : ∀ (L : List UInt8) (k : Nat), k ≤ 65536 → (scanL k L).1 = k + lineN L (65536 - k)
  | [], k, _ => by simp [scanL, lineN, Lib.indexAny]
  | c :: r, k, hk => by
    by_cases hm : k = 65536
    · subst hm
      have : (scanL 65536 (c :: r)).1 = 65536 := by
        unfold scanL
        split
        · rfl
        · rw [if_pos (Or.inr rfl)]
      rw [this]
      simp [lineN, Lib.indexAny]
    · by_cases hc : c.toNat = 13 ∨ c.toNat = 10
      · have : (scanL k (c :: r)).1 = k := by
          unfold scanL
          split
          · rfl
          · rename_i h13
            rw [if_pos (Or.inl (by rcases hc with hc | hc; exact absurd hc h13; exact hc))]
        rw [this]
        have h0 : Lib.indexAny ((c :: r).take (65536 - k)) crlf = 0 := by
          rw [show 65536 - k = (65536 - k - 1) + 1 from by omega, List.take_succ_cons, Lib.indexAny, crlf_yes hc]; rfl
        unfold lineN
        rw [h0]; rfl
      · have h13 : c.toNat ≠ 13 := fun q => hc (Or.inl q)
        have h10 : c.toNat ≠ 10 := fun q => hc (Or.inr q)
        have : scanL k (c :: r) = scanL (k + 1) r := by
          rw [scanL, if_neg h13, if_neg (by omega)]
        rw [this, scan_n r (k + 1) (by omega), show 65536 - k = (65536 - (k + 1)) + 1 from by omega, lineN_cons c r _ (crlf_no h13 h10)]
        omega

theorem scan_f : ∀ (L : List UInt8) (k : Nat), (scanL k L).2 = 0 ∨ ((scanL k L).2 = 31 ∧ (scanL k L).1 = k + L.length) ∨ ((scanL k L).2 = 30 ∧ ∃ j, (scanL k L).1 = k + j ∧ j < L.length ∧ (L.getD j 0).toNat ≠ 13)
  | [], k => by simp [scanL]
  | c :: r, k => by
    by_cases h13 : c.toNat = 13
    · left; simp [scanL, h13]
    · by_cases h2 : c.toNat = 10 ∨ k = 65536
      · right; right
        have : scanL k (c :: r) = (k, 30) := by rw [scanL, if_neg h13, if_pos h2]
        rw [this]
        exact ⟨rfl, 0, rfl, by simp, h13⟩
      · have : scanL k (c :: r) = scanL (k + 1) r := by rw [scanL, if_neg h13, if_neg h2]
        rw [this, List.length_cons]
        rcases scan_f r (k + 1) with g | ⟨g, g2⟩ | ⟨g, j, g2, g3, g4⟩
        · exact Or.inl g
        · exact Or.inr (Or.inl ⟨g, by omega⟩)
        · exact Or.inr (Or.inr ⟨g, j + 1, by omega, by omega, by simpa using g4⟩)

theorem textS_end (bs : List UInt8) (i : Nat) : textS bs i = endS bs (i + lineN (bs.drop i) 65536, 0) ∧ textB bs i = (bs.drop i).take (lineN (bs.drop i) 65536) := by
  have hn := scan_n (bs.drop i) 0 (by decide)
  rw [Nat.zero_add, Nat.sub_zero] at hn
  refine ⟨?_, by unfold textB; rw [hn]⟩
  unfold textS
  rw [hn]
  have hlen : (bs.drop i).length = bs.length - i := List.length_drop
  have hg : ∀ k, ((bs.drop i).getD k 0) = bs.getD (i + k) 0 := fun k => by rw [List.getD_eq_getElem?_getD, List.getElem?_drop, ← List.getD_eq_getElem?_getD]
  rcases scan_f (bs.drop i) 0 with g | ⟨g, g2⟩ | ⟨g, j, g2, g3, g4⟩
  · rw [if_pos g]
  · rw [g, if_neg (by decide), endS_at, if_pos (by omega)]
  · rw [g, if_neg (by decide), endS_at, if_neg (by omega), if_neg (by rw [← hg, show lineN (bs.drop i) 65536 = j from by omega]; exact g4)]

theorem lineN_le (L : List UInt8) : lineN L 65536 ≤ L.length ∧ lineN L 65536 ≤ 65536 := by
  unfold lineN
  have h := indexAny_lt crlf (L.take 65536)
  rw [List.length_take] at h
  split
  · rename_i g
    have := h g
    omega
  · omega

set_option maxRecDepth 100000 in
set_option maxHeartbeats 8000000 in
theorem yline_any (B b : Nat) (v : Value) (bs : List UInt8) (i : Nat) (w : World) (hB : B < w.heap.size) (hb : b < w.heap.size) (hn : b ≠ B) (hc : w.cell? ⟨B, 0, none⟩ = some v) (hf : w.frozen? ⟨B, 0, none⟩ = false) (hl : LeftV w b v (bs.drop i)) (h6 : 6 ≤ w.heap.size) (hT : Tabs8 w) :
    Calls Tryd.prog 40 #[.pointer (some ⟨B, 0, none⟩)] w (LPost w B b bs (textS bs i) (fun x => ∃ T : ByteArray, x = .string T ∧ T.data.toList = textB bs i)) := by
  obtain ⟨hS, hTB⟩ := textS_end bs i
  obtain ⟨X, hX⟩ : ∃ X, textS bs i = X := ⟨_, rfl⟩
  obtain ⟨Y, hY⟩ : ∃ Y, textB bs i = Y := ⟨_, rfl⟩
  rw [hX, hY]
  rw [hX] at hS
  rw [hY] at hTB
  clear hX hY
  obtain ⟨hle, hle2⟩ := lineN_le (bs.drop i)
  have HLN : Hid (lineN (bs.drop i) 65536 = if 0 ≤ Lib.indexAny ((bs.drop i).take 65536) crlf then (Lib.indexAny ((bs.drop i).take 65536) crlf).toNat else min (bs.drop i).length 65536) := rfl
  obtain ⟨K, hK⟩ : ∃ K, lineN (bs.drop i) 65536 = K := ⟨_, rfl⟩
  rw [hK] at hS hTB hle hle2 HLN
  clear hK
  have HTK := Lib.hid (fun w2 h1 h2 h3 (h4 : LeftV w2 b v (bs.drop i)) => ytake_ok B b K v (bs.drop i) w2 h1 h2 h3 h4 hle)
  have HL := Lib.hid hl
  obtain ⟨o, cap, rfl, h1, h2, h3⟩ := hl
  have hdk : (bs.drop i).drop K = bs.drop (i + K) := by rw [List.drop_drop]
  obtain ⟨L, hL⟩ : ∃ L, bs.drop i = L := ⟨_, rfl⟩
  rw [hL] at HTK HL hTB hle h1 h3 hc HLN hdk
  clear hL
  obtain ⟨m, hm⟩ : ∃ m, min L.length 65536 = m := ⟨_, rfl⟩
  have hmi : min (L.length : Int) 65536 = (m : Int) := by omega
  have htm : (L.take 65536).length = m := by rw [List.length_take]; omega
  have hml : m ≤ L.length := by omega
  have hmc : m ≤ cap := by omega
  have HIX := Lib.hid (bindex_any b o cap (L.take 65536) w hb h6 (h3.take 65536) (by omega) (by omega) hT)
  rw [htm] at HIX
  obtain ⟨J, hJ⟩ : ∃ J, Lib.indexAny (L.take 65536) crlf = J := ⟨_, rfl⟩
  unfold CrPost at HIX
  rw [hJ] at HIX HLN
  rw [hm] at HLN
  have HS := Lib.hid hS
  have HTB := Lib.hid hTB
  have HDK := Lib.hid hdk
  clear hJ hm htm h3 hS hTB hdk
  by_cases hJ0 : 0 ≤ J
  · have hKJ : K = J.toNat := by have := HLN.out; rwa [if_pos hJ0] at this
    obtain rfl : J = (K : Int) := by omega
    clear HLN hKJ
    go_enter Tryd.func40, Tryd.ntmps40
    go_wp2_with fail
    refine HIX.out.mono ?_
    rintro e w1 ⟨rfl, hb1⟩
    have HP1 := Lib.hid ((Put.refl hc hB).below hb1)
    have hz1 := hb1.size
    have HT1 := Lib.hid (HTK.out w1 (by omega) (HP1.out.cell hc) ((HP1.out.frozen (q := ⟨B, 0, none⟩) hB).trans hf) (HL.out.put HP1.out hb hn))
    have hc1 := HP1.out.cell hc
    clear hb1
    go_wp2_with fail
    refine HT1.out.mono ?_
    rintro e w2 ⟨t, v2, rfl, ht, hv2, hp2⟩
    have HP2 := Lib.hid (HP1.out.trans hp2)
    rw [HDK.out] at hv2
    have HV2 := Lib.hid (LeftV.back hv2 HP1.out hb hn)
    have hz2 := hp2.size
    have HVR2 := Lib.hid (HV2.out.put HP2.out hb hn)
    have HE := Lib.hid (yend_any B b v2 bs (i + K) w2 (by omega) (by omega) hn (HP2.out.cell hc) ((HP2.out.frozen (q := ⟨B, 0, none⟩) hB).trans hf) HVR2.out)
    rw [← HS.out] at HE
    obtain ⟨ot, ct, rfl, g1, g2, g3⟩ := ht
    have HG3 := Lib.hid (g3.put hp2 (by omega) hn)
    clear hv2 hp2 g3 HT1 HTK HIX
    go_wp2_with fail
    refine HE.out.mono ?_
    rintro e w3 ⟨hres, v3, hv3, hp3⟩
    have HP3 := Lib.hid (HP2.out.trans hp3)
    have HV3 := Lib.hid (LeftV.back hv3 HP2.out hb hn)
    have hcvt := conv_bytes w3 b ot ct (L.take K) (HG3.out.put hp3 (by omega) hn)
    rw [show (L.take K).length = K from by rw [List.length_take]; omega] at hcvt
    clear hv3 hp3 HE
    rcases hres with ⟨hs0, x, rfl, rfl⟩ | ⟨hs1, hth⟩
    · go_wp2
      go_ret
      exact ⟨Or.inl ⟨hs0, _, rfl, _, rfl, HTB.out.symm⟩, v3, HV3.out, HP3.out⟩
    · unfold ThrownR at hth
      have HFI := Lib.hid (show LPost w B b bs X (fun x => ∃ T : ByteArray, x = .string T ∧ T.data.toList = Y) (.panicked [{ v := faultR X.2, recovered := false }]) w3 from ⟨Or.inr ⟨hs1, rfl⟩, v3, HV3.out, HP3.out⟩)
      obtain ⟨F, hF⟩ : ∃ F : Value, faultR X.2 = F := ⟨_, rfl⟩
      rw [hF] at HFI hth
      clear hF
      subst hth
      go_wp2
      exact ⟨rfl, HFI.out⟩
  · have hKm : K = m := by have := HLN.out; rwa [if_neg hJ0] at this
    subst hKm
    clear HLN
    go_enter Tryd.func40, Tryd.ntmps40
    go_wp2_with fail
    refine HIX.out.mono ?_
    rintro e w1 ⟨rfl, hb1⟩
    have HP1 := Lib.hid ((Put.refl hc hB).below hb1)
    have hz1 := hb1.size
    have HT1 := Lib.hid (HTK.out w1 (by omega) (HP1.out.cell hc) ((HP1.out.frozen (q := ⟨B, 0, none⟩) hB).trans hf) (HL.out.put HP1.out hb hn))
    have hc1 := HP1.out.cell hc
    clear hb1
    go_wp2_with fail
    refine HT1.out.mono ?_
    rintro e w2 ⟨t, v2, rfl, ht, hv2, hp2⟩
    have HP2 := Lib.hid (HP1.out.trans hp2)
    rw [HDK.out] at hv2
    have HV2 := Lib.hid (LeftV.back hv2 HP1.out hb hn)
    have hz2 := hp2.size
    have HVR2 := Lib.hid (HV2.out.put HP2.out hb hn)
    have HE := Lib.hid (yend_any B b v2 bs (i + K) w2 (by omega) (by omega) hn (HP2.out.cell hc) ((HP2.out.frozen (q := ⟨B, 0, none⟩) hB).trans hf) HVR2.out)
    rw [← HS.out] at HE
    obtain ⟨ot, ct, rfl, g1, g2, g3⟩ := ht
    have HG3 := Lib.hid (g3.put hp2 (by omega) hn)
    clear hv2 hp2 g3 HT1 HTK HIX
    go_wp2_with fail
    refine HE.out.mono ?_
    rintro e w3 ⟨hres, v3, hv3, hp3⟩
    have HP3 := Lib.hid (HP2.out.trans hp3)
    have HV3 := Lib.hid (LeftV.back hv3 HP2.out hb hn)
    have hcvt := conv_bytes w3 b ot ct (L.take K) (HG3.out.put hp3 (by omega) hn)
    rw [show (L.take K).length = K from by rw [List.length_take]; omega] at hcvt
    clear hv3 hp3 HE
    rcases hres with ⟨hs0, x, rfl, rfl⟩ | ⟨hs1, hth⟩
    · go_wp2
      go_ret
      exact ⟨Or.inl ⟨hs0, _, rfl, _, rfl, HTB.out.symm⟩, v3, HV3.out, HP3.out⟩
    · unfold ThrownR at hth
      have HFI := Lib.hid (show LPost w B b bs X (fun x => ∃ T : ByteArray, x = .string T ∧ T.data.toList = Y) (.panicked [{ v := faultR X.2, recovered := false }]) w3 from ⟨Or.inr ⟨hs1, rfl⟩, v3, HV3.out, HP3.out⟩)
      obtain ⟨F, hF⟩ : ∃ F : Value, faultR X.2 = F := ⟨_, rfl⟩
      rw [hF] at HFI hth
      clear hF
      subst hth
      go_wp2
      exact ⟨rfl, HFI.out⟩

end Go.Proofs.YtbldahkgilkclaaDoor
