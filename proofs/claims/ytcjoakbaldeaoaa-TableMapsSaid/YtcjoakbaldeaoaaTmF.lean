/-
  Package table: the walk of bareRow from a table of numbers to one of texts. Conditions: both lie in memory as they read, and share nothing. Package table: the walk of bare from a table of numbers to one of texts. Conditions: the table lies in memory as it reads; keys of at most 1000 bytes. Package table (values: string): the walk of fill. Conditions: the table lies in memory as it reads, the values beside it, one for each key. Package table (values: int): the iterator that All makes, for every loop body that keeps the rows of pairs. Conditions: the table lies in memory as it reads; keys of at most 1000 bytes. Package table: the walk of Map from a table of numbers to one of texts, with the statement's own function (TableMaps$1). Conditions: the table lies in memory as it reads; keys of at most 1000 bytes; the function's box.
-/
import Derived.Test.YtcjoakbaldeaoaaGTpS
import Derived.Test.YtcjoakbaldeaoaaGTxS
import Derived.Test.YtcjoakbaldeaoaaGTfS
import Derived.Test.YtcjoakbaldeaoaaTmA
import Derived.Test.YtcjoakbaldeaoaaTmC
import Derived.Test.YtcjoakbaldeaoaaTcN
import Derived.Test.YtcjoakbaldeaoaaGTqI
import Derived.Test.YtcjoakbaldeaoaaTbR
import Derived.Stop.RegionWithIn
namespace Go.Proofs.Ytcjoakbaldeaoaa
open Go.RowKit

section
/-- No value as yet. -/
def nilV : List UInt8 → List UInt8 := fun _ => []

theorem rowV_slice (g n : Nat) : ∃ (A : Option Addr) (c : Nat), rowV g n = .slice A n c ∧ (0 < n → A = some ⟨g, 0, none⟩) ∧ n ≤ c ∧ c ≤ n := by
  unfold rowV
  split
  · rename_i h
    subst h
    exact ⟨none, 0, rfl, fun h => absurd h (Nat.lt_irrefl 0), Nat.le_refl _, Nat.le_refl _⟩
  · exact ⟨_, _, rfl, fun _ => rfl, Nat.le_refl _, Nat.le_refl _⟩

set_option maxRecDepth 100000 in
set_option maxHeartbeats 16000000 in
theorem bareRow_any {base b1 Q Q1 g gA g0 nh : Nat} {ow o1 : Own} {tyT : TypeId} {hdr : Nat → Value} {RA : List (List (List UInt8 × List UInt8))} {sA s0 sp : Nat → Value} {R : List (List (List UInt8 × Int))} (w : World) (hs : RowsAt KI w b1 o1 Q1 g R sp) (hd : TbOn KS w base ow Q tyT nh hdr RA gA sA [] g0 s0)
    (hno : ∀ k, o1 k ≠ none → ow k = none ∧ k < w.heap.size) (hR : R.length ≤ 400000) (hm : ∀ (i : Nat) (l : List (List UInt8 × Int)), R[i]? = some l → l.length ≤ 400000) (hk : KeysR (fun k => k.length ≤ 1000) R) (hbase : base ≤ w.heap.size) :
    Calls Try.prog 82 #[rowV g R.length] w fun e w' => ∃ o2 G sG, e = .returned (.slice (some ⟨G, 0, none⟩) R.length R.length) ∧ TbOn KS w' base o2 Q tyT nh hdr RA gA sA (keyR nilV R) G sG ∧ Turns ow o2 w w' := by
  obtain ⟨i0, hi, hy⟩ := Option.map_eq_some_iff.1 info_bktS
  simp only [Prod.mk.injEq] at hy
  obtain ⟨hy0, hy1, hy2⟩ := hy
  have HY := Lib.hid (show i0.zero = some (.slice none 0 0) ∧ i0.size = 1 ∧ i0.bytes = 24 from ⟨hy0, hy1, hy2⟩)
  obtain ⟨ip, hip, hyp⟩ := Option.map_eq_some_iff.1 info_pairS
  simp only [Prod.mk.injEq] at hyp
  have HIP := Lib.hid hyp
  have hzp := zpairS
  obtain ⟨A, c, hA, hA1, hcn, hcn2⟩ := rowV_slice g R.length
  rw [hA]
  have HA1 := Lib.hid hA1
  have hSRC : ∀ (X : World) (o3 : Own), Turns ow o3 w X → RowsAt KI X b1 o1 Q1 g R sp := fun X o3 hX => hs.keep (fun k hk => hX.block k (hno k hk).2 (hno k hk).1)
  have HSRC := Lib.hid hSRC
  obtain ⟨ow2, hT2, hU2⟩ := hd.fresh R.length hbase
  have HKEY := Lib.hid hk
  have HML := Lib.hid hm
  obtain ⟨n, hn⟩ : ∃ n, R.length = n := ⟨_, rfl⟩
  have HN := Lib.hid hn
  rw [hn] at hT2 hU2 hcn hcn2 HA1 hR ⊢
  have hga := hbase
  obtain ⟨G, hG⟩ : ∃ G, w.heap.size = G := ⟨_, rfl⟩
  rw [hG] at hT2 hga
  have HG := Lib.hid hG
  have hcm : c ≤ 9223372036854775807 := by omega
  have HT2 := Lib.hid hT2
  have HU2 := Lib.hid hU2
  clear hs hd hno hm hk hA hA1 hSRC hT2 hU2 hn hy0 hy1 hy2 hyp hG
  go_enter Try.func82, Try.ntmps82
  go_wp2_with (at_make; refine wpList_make_row _ rfl _ _ _ rfl 101 i0 (.slice none 0 0) Try.underlying84 hi HY.out.1 HY.out.2.1 rfl .i64 .i64 n ?m1 ?m2 ?m3 (by omega) ?_)
  try case m3 => rw [HY.out.2.2]; omega
  try case m1 => rfl
  try case m2 => rfl
  try rw [HG.out]
  go_loopw [4, 5, 6, 12] (fun _ _ _ iv wr => ∃ (i : Nat) (o3 : Own) (s3 : Nat → Value), iv = .int .i64 i ∧ i ≤ n ∧ TbOn KS wr base o3 Q tyT nh hdr RA gA sA (brR nilV R i 0) G s3 ∧ Turns ow o3 w wr) (fun _ _ _ iv _ => n - (intOf iv).toNat)
  case atStart => exact ⟨0, ow2, _, rfl, by omega, by rw [br_start, HN.out]; exact HT2.out, HU2.out⟩
  case round =>
    obtain ⟨i, o3, s3, rfl, hi2, ht3, hu3⟩ := hrel
    have HT3 := Lib.hid ht3
    have HU3 := Lib.hid hu3
    clear ht3 hu3
    by_cases hlt : i < n
    · obtain rfl := HA1.out (by omega)
      obtain ⟨l, hl⟩ : ∃ l, R[i]? = some l := ⟨_, List.getElem?_eq_getElem (by rw [HN.out]; exact hlt)⟩
      have HL := Lib.hid hl
      have hsrc := HSRC.out wr o3 HU3.out
      have hrc := (hsrc.row (len_pos hl)).cell (i := i) (by rw [HN.out]; exact hlt)
      have hbk := hsrc.bkt i l hl
      obtain ⟨Ab, cb, hsb⟩ : ∃ A c, sp i = .slice A l.length c := by
        rcases hbk.2 with ⟨h1, h2⟩ | ⟨g, cap, cur, hv, _⟩
        · exact ⟨none, 0, by rw [h1, h2]⟩
        · exact ⟨_, _, hv⟩
      have HSB := Lib.hid hsb
      rw [hsb] at hrc
      have hll := HML.out i l hl
      obtain ⟨ln, hln⟩ : ∃ n, l.length = n := ⟨_, rfl⟩
      have HLN := Lib.hid hln
      rw [hln] at hrc hll
      clear hl hsrc hbk hsb hln
      go_wp2_with fail
      go_loopw [6, 19] (fun _ jv wr => ∃ (j : Nat) (o4 : Own) (s4 : Nat → Value), jv = .int .i64 j ∧ j ≤ ln ∧ TbOn KS wr base o4 Q tyT nh hdr RA gA sA (brR nilV R i j) G s4 ∧ Turns ow o4 w wr) (fun _ jv _ => ln - (intOf jv).toNat)
      case atStart => exact ⟨0, o3, s3, rfl, by omega, HT3.out, HU3.out⟩
      case round =>
        obtain ⟨j, o4, s4, rfl, hj2, ht4, hu4⟩ := hrel
        have HT4 := Lib.hid ht4
        have HU4 := Lib.hid hu4
        clear ht4 hu4
        by_cases hjl : j < ln
        · obtain ⟨x, hx⟩ : ∃ x, l[j]? = some x := ⟨_, List.getElem?_eq_getElem (by rw [HLN.out]; exact hjl)⟩
          have HX := Lib.hid hx
          have hbk := (HSRC.out wr o4 HU4.out).bkt i l HL.out
          obtain ⟨b, rfl⟩ : ∃ b, Ab = some ⟨b, 0, none⟩ := by
            rcases hbk.2 with ⟨q1, q2⟩ | ⟨b, cap, cur, hv, _⟩
            · rw [HLN.out] at q2; omega
            · rw [HSB.out] at hv
              injection hv with hv _ _
              exact ⟨b, hv⟩
          rw [HSB.out] at hbk
          have e0 := (World.ownsRow.cellAt hbk (j * 2) (by rw [HLN.out]; omega)).trans (encIt_get KI.enc l j x hx).1
          have hbl := World.block_lt_of_cell? wr _ e0
          have hks := HKEY.out i l HL.out x (List.mem_of_getElem? hx)
          have hcb : ln ≤ cb := by
            rcases hbk.2 with ⟨q1, q2⟩ | ⟨b, cap, cur, hv, _, _, hnc, _⟩
            · cases q1
            · injection hv with _ _ hv; rw [HLN.out] at hnc; omega
          -- where the new row stands
          have hrow := ((HT4.out.symm.a.row (by rw [brR_length, HN.out]; omega)).cell (i := i) (by rw [brR_length, HN.out]; exact hlt))
          have hgl := (HT4.out.symm.a.row (by rw [brR_length, HN.out]; omega)).lt
          have hat := br_at nilV HL.out j
          have hown := HT4.out.symm.a.bkt i _ hat
          have hlj : (keyL nilV (l.take j)).length = j := by rw [keyL_length, List.length_take, HLN.out]; omega
          rw [hlj] at hown
          obtain ⟨Ar, cr, hAr⟩ : ∃ A c, s4 i = .slice A j c := by
            rcases hown.2 with ⟨h1, h2⟩ | ⟨g, cap, cur, hv, _⟩
            · exact ⟨none, 0, by rw [h1, h2]⟩
            · exact ⟨_, _, hv⟩
          have HNBB : Hid (∀ k, (Value.slice Ar j cr).ownBlock = some k → k ≠ G) := fun k hk => HT4.out.symm.bA hat (by rw [hAr]; exact hk)
          have HAR := Lib.hid hAr
          have HAT := Lib.hid hat
          rw [hAr] at hrow hown
          obtain ⟨K, hK⟩ : ∃ K : ByteArray, (⟨x.1.toArray⟩ : ByteArray) = K := ⟨_, rfl⟩
          have HKK := Lib.hid hK
          rw [hK] at e0
          have hKs : K.size ≤ 1000 := by rw [← hK]; simpa [ByteArray.size] using hks
          have HCL := Lib.hid (fun W => clone_any K W (by omega))
          have HROW := Lib.hid hrow
          have HSTEP := Lib.hid (fun (W : World) (hW : Below wr.heap.size wr W) => HT4.out.symm.below hW)
          have hbase2 : base ≤ wr.heap.size := by have := HU4.out.size; omega
          clear hbk hks hown hAr hat hlj hK hx
          go_wp2_with fail
          go_region_law (first
            | (go_simp; go_at_call 59; refine (HCL.out _).mono ?_; rintro en w4 ⟨rfl, hb4⟩; have hc4 : Below wr.heap.size wr w4 := (by first | exact hb4 | exact (Below.refl wr.heap.size wr).drew.trans hb4); have HB4 := Lib.hid hc4; have hz4 := hc4.size; have q3 := (hc4.cell (p := ⟨G, i, none⟩) hgl).trans HROW.out; have qa : (w4.alloc (.cells #[.string K, .string ⟨#[]⟩] 90)).cell? ⟨G, i, none⟩ = some (.slice Ar j cr) := (((Below.refl w4.heap.size w4).alloc (Nat.le_refl _) _).cell (p := ⟨G, i, none⟩) (by show G < w4.heap.size; omega)).trans q3; have hz5 : (w4.alloc (.cells #[.string K, .string ⟨#[]⟩] 90)).heap.size = w4.heap.size + 1 := (by simp); have E1 := Lib.hid (show (w4.alloc (.cells #[.string K, .string ⟨#[]⟩] 90)).ownsRow base 90 2 (.slice Ar j cr) j (encIt KS.enc (keyL nilV (l.take j))) from (by have q := (HSTEP.out w4 hc4).a.bkt i _ HAT.out; rw [HAR.out, show (keyL nilV (l.take j)).length = j from by rw [keyL_length, List.length_take, HLN.out]; omega] at q; exact q.alloc _)); have E2 := Lib.hid (show ∀ jj u, [Value.string K, .string ⟨#[]⟩][jj]? = some u → (w4.alloc (.cells #[.string K, .string ⟨#[]⟩] 90)).cell? ((⟨w4.heap.size, 0, none⟩ : Addr).add jj) = some u from World.news_of_block (cs := #[.string K, .string ⟨#[]⟩]) (t := 90) (fr := (0, 0)) (heap_alloc_new w4 _)); have E4 := Lib.hid hz5; have E7 := Lib.hid (((HSTEP.out w4 hc4).below ((Below.refl w4.heap.size w4).alloc (Nat.le_refl _) (.cells #[.string K, .string ⟨#[]⟩] 90))).a.row (by rw [brR_length, HN.out]; omega)); clear hb4 hc4)
            | (refine step_append_lies _ (by rfl) _ _ _ (by rfl) base 90 ip _ 2 32 Try.underlying101 hip HIP.out.1 HIP.out.2.1 HIP.out.2.2 rfl (by omega) (.slice Ar j cr) j (encIt KS.enc (keyL nilV (l.take j))) (by rfl) (by exact E1.out) ⟨w4.heap.size, 0, none⟩ 1 1 [.string K, .string ⟨#[]⟩] (by rfl) (by rfl) (by exact E2.out) (by simp [Value.oneCell']) (by omega) (by unfold maxLen; omega) (by omega) (by rw [E4.out]; omega) (w4.heap.size + 1) (by exact E4.out) ?_; intro gg cg w5 hown5 hgrow hor hgg; have hbG := hgrow.block G (by rw [E4.out]; omega) (fun e => HNBB.out G e.symm rfl); have p3 := (World.cell?_of_block (a := ⟨G, i, none⟩) hbG).trans qa; have pf := (World.frozen?_of_block (a := ⟨G, i, none⟩) hbG).trans (E7.out.frozen i); have HGR := Lib.hid hgrow; have HOX := Lib.hid hown5; have HOR := Lib.hid hor; clear hgrow hbG hown5 hgg hor))
          all_goals
            have HNEW : ∃ o6 s6, TbOn KS (w5.setCell ⟨G, i, none⟩ (.slice (some ⟨gg, 0, none⟩) (j + 1) cg)) base o6 Q tyT nh hdr RA gA sA (brR nilV R i (j + 1)) G s6 ∧ Turns ow o6 w (w5.setCell ⟨G, i, none⟩ (.slice (some ⟨gg, 0, none⟩) (j + 1) cg)) := by
              have hb5 := (Below.refl w4.heap.size w4).alloc (Nat.le_refl _) (.cells #[.string K, .string ⟨#[]⟩] 90)
              have hlj : (keyL nilV (l.take j)).length = j := by rw [keyL_length, List.length_take, HLN.out]; omega
              obtain ⟨o6, h1, h2⟩ := TbOn.store ((HSTEP.out w4 HB4.out).below hb5) (l' := keyL nilV (l.take j) ++ [(x.1, nilV x.1)]) (v' := .slice (some ⟨gg, 0, none⟩) (j + 1) cg) HAT.out (by rw [HAR.out]; exact HGR.out) (by
                rw [List.length_append, hlj, encIt_app]
                have e : encIt KS.enc [(x.1, nilV x.1)] = [.string K, .string ⟨#[]⟩] := by
                  rw [← HKK.out]; rfl
                rw [e]
                exact HOX.out) (by
                rcases HOR.out with q | q
                · exact Or.inr (Or.inl (by rw [HAR.out]; exact q.symm))
                · exact Or.inr (Or.inr ⟨gg, rfl, by rw [E4.out]; omega⟩))
              rw [br_more nilV HL.out HX.out] at h1
              exact ⟨o6, _, h1.symm, HU4.out.trans ((Turns.of_below o4 HB4.out).trans ((Turns.of_below o4 hb5).trans h2))⟩
            obtain ⟨w6, hw6⟩ : ∃ w6, w5.setCell ⟨G, i, none⟩ (.slice (some ⟨gg, 0, none⟩) (j + 1) cg) = w6 := ⟨_, rfl⟩
            rw [hw6] at HNEW
            obtain ⟨o6, s6, h6, hu6⟩ := HNEW
            have H6 := Lib.hid h6
            have HU6 := Lib.hid hu6
            have HW6 := Lib.hid hw6
            clear h6 hu6 hw6 q3 qa
            go_wp2
            try rw [HW6.out]
            go_roundw
            case rel => exact ⟨j + 1, o6, s6, by go_num, by omega, H6.out, HU6.out⟩
            case measure => simp only [intOf]; omega
        · obtain rfl : j = ln := by omega
          have HNX : Hid (brR nilV R i j = brR nilV R (i + 1) 0) := by unfold Hid; rw [← HLN.out]; exact br_next nilV HL.out
          go_wp2
          go_roundw
          case rel => exact ⟨i + 1, o4, s4, by go_num, by omega, by rw [← HNX.out]; exact HT4.out, HU4.out⟩
          case measure => simp only [intOf]; omega
    · obtain rfl : i = n := by omega
      have HE : Hid (brR nilV R i 0 = keyR nilV R) := by unfold Hid; rw [← HN.out]; exact br_end nilV R
      go_wp2
      go_ret
      exact ⟨o3, G, s3, rfl, by rw [← HE.out]; exact HT3.out, HU3.out⟩
end

section
theorem nilV_key (t : Tb Int) : (keyT nilV t).A.length = t.A.length ∧ (keyT nilV t).B.length = t.B.length := ⟨keyR_length _ _, keyR_length _ _⟩

set_option maxRecDepth 100000 in
set_option maxHeartbeats 16000000 in
theorem bare_any {b1 Q1 seed m : Nat} {o1 : Own} {t : Tb Int} {gA gB : Nat} {sA sB : Nat → Value} (w : World) (h : PT KI w b1 o1 Q1 67 seed t gA sA gB sB) (hg : Fit m t) (hm : m ≤ 50000) (hk : KeysT (fun k => k.length ≤ 1000) t) :
    Calls Try.prog 54 #[.pointer (some ⟨Q1, 0, none⟩)] w fun e w' => ∃ Q ow GA SA GB SB AB, e = .returned (.pointer (some ⟨Q, 0, none⟩)) ∧ P2 w' w.heap.size ow Q seed (keyT nilV t) GA SA GB SB AB ∧ Below w.heap.size w w' := by
  have c1 : w.cell? ⟨Q1, 1, none⟩ = some (.int .u64 seed) := h.hd.cell (by omega)
  have hQ1 := World.block_lt_of_cell? w _ c1
  have HNEW := Lib.hid (newS_any seed w)
  have HP := Lib.hid h
  have hA := hg.a
  have hB := hg.b
  -- what a call of bareRow makes, of either row
  have HRA : Hid (∀ (X : World) (Q nh g0 GA : Nat) (ow : Own) (tyT : TypeId) (hdr : Nat → Value) (RA : List (List (List UInt8 × List UInt8))) (SA s0 : Nat → Value), Below w.heap.size w X → TbOn KS X w.heap.size ow Q tyT nh hdr RA GA SA [] g0 s0 →
      Calls Try.prog 82 #[rowV gA t.A.length] X fun e w' => ∃ o2 G sG, e = .returned (.slice (some ⟨G, 0, none⟩) t.A.length t.A.length) ∧ TbOn KS w' w.heap.size o2 Q tyT nh hdr RA GA SA (keyR nilV t.A) G sG ∧ Below w.heap.size w w') := by
    intro X Q nh g0 GA ow tyT hdr RA SA s0 hX hT
    refine (bareRow_any X (TbOn.below h hX).a hT (fun k hk => ⟨?_, Nat.lt_of_lt_of_le (TbOn.dom h k hk).2 hX.size⟩) (by omega) (fun i l hl => by have := hg.bktA hl; omega) hk.1 hX.size).mono ?_
    · cases hq : ow k with
      | none => rfl
      | some y => exact absurd (TbOn.dom h k hk).2 (by have := (hT.dom k (by rw [hq]; exact fun e => by cases e)).1; omega)
    · rintro e w' ⟨o2, G, sG, rfl, h1, h2⟩
      exact ⟨o2, G, sG, rfl, h1, hX.trans (h2.below hX.size (fun k hk => (hT.dom k hk).1))⟩
  have HRB : Hid (∀ (X : World) (Q nh g0 GA : Nat) (ow : Own) (tyT : TypeId) (hdr : Nat → Value) (RA : List (List (List UInt8 × List UInt8))) (SA s0 : Nat → Value), Below w.heap.size w X → TbOn KS X w.heap.size ow Q tyT nh hdr RA GA SA [] g0 s0 →
      Calls Try.prog 82 #[rowV gB t.B.length] X fun e w' => ∃ o2 G sG, e = .returned (.slice (some ⟨G, 0, none⟩) t.B.length t.B.length) ∧ TbOn KS w' w.heap.size o2 Q tyT nh hdr RA GA SA (keyR nilV t.B) G sG ∧ Below w.heap.size w w') := by
    intro X Q nh g0 GA ow tyT hdr RA SA s0 hX hT
    refine (bareRow_any X (TbOn.below h hX).b hT (fun k hk => ⟨?_, Nat.lt_of_lt_of_le (TbOn.dom h k hk).2 hX.size⟩) (by omega) (fun i l hl => by have := hg.bktB hl; omega) hk.2 hX.size).mono ?_
    · cases hq : ow k with
      | none => rfl
      | some y => exact absurd (TbOn.dom h k hk).2 (by have := (hT.dom k (by rw [hq]; exact fun e => by cases e)).1; omega)
    · rintro e w' ⟨o2, G, sG, rfl, h1, h2⟩
      exact ⟨o2, G, sG, rfl, h1, hX.trans (h2.below hX.size (fun k hk => (hT.dom k hk).1))⟩
  have HC : Hid (∀ X, Below w.heap.size w X → X.cell? ⟨Q1, 2, none⟩ = some (.int .i64 t.n) ∧ X.cell? ⟨Q1, 3, none⟩ = some (rowV gA t.A.length) ∧ X.cell? ⟨Q1, 4, none⟩ = some (rowV gB t.B.length) ∧ X.cell? ⟨Q1, 5, none⟩ = some (.int .i64 t.moved)) := fun X hX =>
    ⟨(TbOn.below h hX).hd.cell (by omega), (TbOn.below h hX).hd.cell (by omega), (TbOn.below h hX).hd.cell (by omega), (TbOn.below h hX).hd.cell (by omega)⟩
  obtain ⟨va, hva⟩ : ∃ v, rowV gA t.A.length = v := ⟨_, rfl⟩
  obtain ⟨vb, hvb⟩ : ∃ v, rowV gB t.B.length = v := ⟨_, rfl⟩
  rw [hva] at HRA HC
  rw [hvb] at HRB HC
  obtain ⟨na, hna⟩ : ∃ n, t.A.length = n := ⟨_, rfl⟩
  obtain ⟨nb, hnb⟩ : ∃ n, t.B.length = n := ⟨_, rfl⟩
  obtain ⟨tn, htn⟩ : ∃ n, t.n = n := ⟨_, rfl⟩
  obtain ⟨tm, htm⟩ : ∃ n, t.moved = n := ⟨_, rfl⟩
  rw [htn, htm] at HC
  rw [hna] at HRA
  rw [hnb] at HRB
  have HFIN : Hid (∀ (X : World) (Q : Nat) (ow : Own) (hdr : Nat → Value) (GA GB : Nat) (SA SB : Nat → Value), (∀ i, i < 6 → hdr i = pHdr Q seed tn tm (.slice (some ⟨GA, 0, none⟩) na na) (.slice (some ⟨GB, 0, none⟩) nb nb) i) → TbOn KS X w.heap.size ow Q 86 6 hdr (keyR nilV t.A) GA SA (keyR nilV t.B) GB SB → P2 X w.heap.size ow Q seed (keyT nilV t) GA SA GB SB (some ⟨GB, 0, none⟩)) := by
    intro X Q ow hdr GA GB SA SB hh hT
    refine ⟨?_, fun _ => rfl⟩
    rw [(nilV_key t).1, (nilV_key t).2, hna, hnb, show (keyT nilV t).n = tn from htn, show (keyT nilV t).moved = tm from htm]
    exact hT.recap hh
  clear h hg hk hva hvb hna hnb htn htm hA hB
  go_enter Try.func54, Try.ntmps54
  go_wp2_with fail
  refine HNEW.out.mono ?_
  rintro e w1 ⟨Q, ow, gA0, sA0, gB0, sB0, rfl, hp, hb1⟩
  have HP1 := Lib.hid hp
  have HB1 := Lib.hid hb1
  have hQn : Q1 ≠ Q := by have := (PT.base_le hp).1; omega
  have f2 := hp.hd.frozen 2
  have f5 := hp.hd.frozen 5
  have f3 := hp.hd.frozen 3
  have f4 := hp.hd.frozen 4
  have d2 : w1.cell? ⟨Q, 2, none⟩ = some (.int .i64 0) := hp.hd.cell (by omega)
  have d5 : w1.cell? ⟨Q, 5, none⟩ = some (.int .i64 0) := hp.hd.cell (by omega)
  obtain ⟨a2, a3, a4, a5⟩ := HC.out w1 hb1
  clear hp hb1 c1
  go_wp2_with fail
  go_region
  obtain ⟨X, hX⟩ : ∃ X, ((w1.setCell ⟨Q, 2, none⟩ (.int .i64 tn)).setCell ⟨Q, 5, none⟩ (.int .i64 tm)).drew = X := ⟨_, rfl⟩
  have hbX : Below w.heap.size w X := by
    have q1 := ((TbOn.turnsHd HP1.out 2 (.int .i64 tn)).trans (TbOn.turnsHd (TbOn.setHd HP1.out 2 (.int .i64 tn)) 5 (.int .i64 tm)))
    have q2 := HB1.out.trans (q1.below HB1.out.size (fun k hk => (TbOn.dom HP1.out k hk).1))
    rw [← hX]
    exact ⟨q2.os, q2.tape, q2.output, q2.size, q2.block⟩
  have hTX : TbOn KS X w.heap.size ow Q 86 6 (fun i => if i = 5 then .int .i64 tm else if i = 2 then .int .i64 tn else pHdr Q seed 0 0 (.slice (some ⟨gA0, 0, none⟩) 4 4) (.slice none 0 0) i) [[], [], [], []] gA0 sA0 [] gB0 sB0 := by
    have q := TbOn.setHd (TbOn.setHd HP1.out 2 (.int .i64 tn)) 5 (.int .i64 tm)
    rw [← hX]
    exact TbOn.keep q (Nat.le_refl _) (fun k hk => rfl)
  have HTX := Lib.hid hTX
  have HBX := Lib.hid hbX
  obtain ⟨x2, x3, x4, x5⟩ := HC.out X hbX
  have d3 : X.cell? ⟨Q, 3, none⟩ = some (.slice (some ⟨gA0, 0, none⟩) 4 4) := by have q := hTX.hd.cell (i := 3) (by omega); exact q
  have d4 : X.cell? ⟨Q, 4, none⟩ = some (.slice none 0 0) := by have q := hTX.hd.cell (i := 4) (by omega); exact q
  have g3 := hTX.hd.frozen 3
  have g4 := hTX.hd.frozen 4
  have HX := Lib.hid hX
  clear hTX hbX hX
  go_wp2_with fail
  rw [HX.out]
  go_region_law (first
    | (have qq := HTA; go_simp; go_at_call 82; refine (HRB.out _ _ _ _ _ _ _ _ _ _ _ (by first | exact HBA.out | exact HBA.out.drew) (by first | exact HTA.out.symm.drop 0 (fun _ => .slice none 0 0) | exact (HTA.out.below (Below.refl _ _).drew).symm.drop 0 (fun _ => .slice none 0 0))).mono ?_; rintro en w5 ⟨o5, G5, S5, rfl, ht5, hb5⟩; have HT5 := Lib.hid ht5; have HB5 := Lib.hid hb5; have e3 := ht5.hd.cell (i := 3) (by omega); have e4 := ht5.hd.cell (i := 4) (by omega); have k3 := ht5.hd.frozen 3; have k4 := ht5.hd.frozen 4; clear ht5 hb5)
    | (have qq := HTB; go_simp; go_at_call 82; refine (HRA.out _ _ _ _ _ _ _ _ _ _ _ (by first | exact HBB.out | exact HBB.out.drew) (by first | exact HTB.out.symm.drop 0 (fun _ => .slice none 0 0) | exact (HTB.out.below (Below.refl _ _).drew).symm.drop 0 (fun _ => .slice none 0 0))).mono ?_; rintro en w5 ⟨o5, G5, S5, rfl, ht5, hb5⟩; have HT6 := Lib.hid ht5; have HB5 := Lib.hid hb5; have e3 := ht5.hd.cell (i := 3) (by omega); have e4 := ht5.hd.cell (i := 4) (by omega); have k3 := ht5.hd.frozen 3; have k4 := ht5.hd.frozen 4; clear ht5 hb5)
    | (go_simp; go_at_call 82; refine (HRA.out _ _ _ _ _ _ _ _ _ _ _ (by first | exact HBX.out | exact HBX.out.drew) (by first | exact HTX.out | exact HTX.out.below (Below.refl _ _).drew)).mono ?_; rintro en w4 ⟨o4, G4, S4, rfl, ht4, hb4⟩; have HTA := Lib.hid ht4; have HBA := Lib.hid hb4; have HCA := Lib.hid (HC.out w4 hb4); obtain ⟨_, y3, y4, _⟩ := HC.out w4 hb4; clear ht4 hb4)
    | (go_simp; go_at_call 82; refine (HRB.out _ _ _ _ _ _ _ _ _ _ _ (by first | exact HBX.out | exact HBX.out.drew) (by first | exact HTX.out | exact HTX.out.below (Below.refl _ _).drew)).mono ?_; rintro en w4 ⟨o4, G4, S4, rfl, ht4, hb4⟩; have HTB := Lib.hid ht4; have HBB := Lib.hid hb4; obtain ⟨_, y3, y4, _⟩ := HC.out w4 hb4; clear ht4 hb4))
  all_goals
    have HEND : Hid (∀ (G G' : Nat) (S S' : Nat → Value), TbOn KS w5 w.heap.size o5 Q 86 6 (fun i => if i = 5 then .int .i64 tm else if i = 2 then .int .i64 tn else pHdr Q seed 0 0 (.slice (some ⟨gA0, 0, none⟩) 4 4) (.slice none 0 0) i) (keyR nilV t.A) G S (keyR nilV t.B) G' S' → P2 ((w5.setCell ⟨Q, 3, none⟩ (.slice (some ⟨G, 0, none⟩) na na)).setCell ⟨Q, 4, none⟩ (.slice (some ⟨G', 0, none⟩) nb nb)) w.heap.size o5 Q seed (keyT nilV t) G S G' S' (some ⟨G', 0, none⟩) ∧ Below w.heap.size w ((w5.setCell ⟨Q, 3, none⟩ (.slice (some ⟨G, 0, none⟩) na na)).setCell ⟨Q, 4, none⟩ (.slice (some ⟨G', 0, none⟩) nb nb))) := by
      have hdr6 : ∀ (G G' : Nat) (i : Nat), i < 6 → (fun i => if i = 4 then Value.slice (some ⟨G', 0, none⟩) nb nb else (fun i => if i = 3 then Value.slice (some ⟨G, 0, none⟩) na na else (fun i => if i = 5 then Value.int .i64 tm else if i = 2 then .int .i64 tn else pHdr Q seed 0 0 (.slice (some ⟨gA0, 0, none⟩) 4 4) (.slice none 0 0) i) i) i) i = pHdr Q seed tn tm (.slice (some ⟨G, 0, none⟩) na na) (.slice (some ⟨G', 0, none⟩) nb nb) i := fun G G' i hi => by
        rcases i with _ | _ | _ | _ | _ | _ | i <;> first | rfl | omega
      intro G G' S S' hT
      have q1 := (hT.setHd 3 (.slice (some ⟨G, 0, none⟩) na na)).setHd 4 (.slice (some ⟨G', 0, none⟩) nb nb)
      have u1 := (hT.turnsHd 3 (.slice (some ⟨G, 0, none⟩) na na)).trans ((hT.setHd 3 (.slice (some ⟨G, 0, none⟩) na na)).turnsHd 4 (.slice (some ⟨G', 0, none⟩) nb nb))
      have q2 := HB5.out.trans (u1.below HB5.out.size (fun k hk => (hT.dom k hk).1))
      exact ⟨HFIN.out _ Q o5 _ G G' S S' (hdr6 G G') q1, q2⟩
    go_wp2
    go_ret
    first
      | (obtain ⟨h1, h2⟩ := HEND.out G4 G5 S4 S5 HT5.out; exact ⟨Q, o5, _, _, _, _, _, rfl, h1, h2⟩)
      | (obtain ⟨h1, h2⟩ := HEND.out G5 G4 S5 S4 HT6.out.symm; exact ⟨Q, o5, _, _, _, _, _, rfl, h1, h2⟩)
end

section
open Go.RowKit Go.Shelf

attribute [local go_sem] Oper.semAt_some

/-- How fill's memory stands between two rounds. -/
def JFi (w : World) (base : Nat) (ow : Own) (Q : Nat) (hdr : Nat → Value) (f g : List UInt8 → List UInt8) (t : Tb Int) (GA : Nat) (SA : Nat → Value) (GB : Nat) (SB : Nat → Value) (vb N c : Nat) (r : Loop) (p : Nat) (X : World) : Prop :=
  FilAt KS w X base ow Q 86 6 hdr f g t GA SA GB SB p 0 ∧
  (∃ A', Boxed X w.heap.size 78 (.slice A' (N - cnt ((t.A ++ t.B).take p)) (c - cnt ((t.A ++ t.B).take p))) ∧ (cnt ((t.A ++ t.B).take p) < N → A' = some ⟨vb, cnt ((t.A ++ t.B).take p), none⟩)) ∧
  X.heap[w.heap.size + 2]? = some (.deferred (some [])) ∧ X.heap[w.heap.size + 3]? = some (.loop r)

theorem JFi.keep {w X X' : World} {base Q vb N c p : Nat} {ow : Own} {hdr : Nat → Value} {f g : List UInt8 → List UInt8} {t : Tb Int} {GA GB : Nat} {SA SB : Nat → Value} {r : Loop} (h : JFi w base ow Q hdr f g t GA SA GB SB vb N c r p X) (hs : w.heap.size ≤ X.heap.size) (k : X.grownBy X' none) : JFi w base ow Q hdr f g t GA SA GB SB vb N c r p X' := by
  obtain ⟨h1, ⟨A', h2, h3⟩, h4, h5⟩ := h
  exact ⟨h1.keep k.size k.os k.tape k.output (fun j hj => k.block j (by omega) (fun e => by cases e)), ⟨A', (k.block _ h2.lt (fun e => by cases e)).trans h2, h3⟩,
    (k.block _ (Array.getElem?_eq_some_iff.1 h4).1 (fun e => by cases e)).trans h4, (k.block _ (Array.getElem?_eq_some_iff.1 h5).1 (fun e => by cases e)).trans h5⟩

set_option maxRecDepth 100000 in
set_option maxHeartbeats 32000000 in
theorem fill_any {base Q seed m bv : Nat} {ow : Own} {t : Tb Int} {GA GB : Nat} {SA SB : Nat → Value} {AB : Option Addr} (w : World) (f g : List UInt8 → List UInt8) (h : P2 w base ow Q seed (keyT f t) GA SA GB SB AB) (hg : Fit m t) (hm : m ≤ 50000) {Av : Option Addr} {N c : Nat} (hN : N = (allT t).length) (hv : w.ownsRow bv 9 1 (.slice Av N c) N ((vsL g (allT t)).map (fun s => Value.string ⟨s.toArray⟩))) (hvo : ∀ b, (Value.slice Av N c).ownBlock = some b → ow b = none) :
    Calls Try.prog 55 #[.pointer (some ⟨Q, 0, none⟩), .slice Av N c] w fun e w' => e = .returned (.tuple #[]) ∧ ∃ o', P2 w' base o' Q seed (keyT g t) GA SA GB SB AB ∧ Turns ow o' w w' := by
  obtain ⟨h1, hAB⟩ := h
  have eA : (keyT f t).A.length = t.A.length := keyR_length _ _
  have eB : (keyT f t).B.length = t.B.length := keyR_length _ _
  rw [eB] at hAB
  have hdrE : ∃ hdr, pHdr Q seed (keyT f t).n (keyT f t).moved (.slice (some ⟨GA, 0, none⟩) (keyT f t).A.length (keyT f t).A.length) (.slice AB (keyT f t).B.length (keyT f t).B.length) = hdr := ⟨_, rfl⟩
  have h3 : pHdr Q seed (keyT f t).n (keyT f t).moved (.slice (some ⟨GA, 0, none⟩) (keyT f t).A.length (keyT f t).A.length) (.slice AB (keyT f t).B.length (keyT f t).B.length) 3 = .slice (some ⟨GA, 0, none⟩) t.A.length t.A.length := by rw [← eA]; rfl
  have h4 : pHdr Q seed (keyT f t).n (keyT f t).moved (.slice (some ⟨GA, 0, none⟩) (keyT f t).A.length (keyT f t).A.length) (.slice AB (keyT f t).B.length (keyT f t).B.length) 4 = .slice AB t.B.length t.B.length := by rw [← eB]; rfl
  have hBACK : ∀ (X : World) (o' : Own), TbOn KS X base o' Q 86 6 (pHdr Q seed (keyT f t).n (keyT f t).moved (.slice (some ⟨GA, 0, none⟩) (keyT f t).A.length (keyT f t).A.length) (.slice AB (keyT f t).B.length (keyT f t).B.length)) (keyR g t.A) GA SA (keyR g t.B) GB SB → P2 X base o' Q seed (keyT g t) GA SA GB SB AB := by
    intro X o' hT
    have gA : (keyT g t).A.length = t.A.length := keyR_length _ _
    have gB : (keyT g t).B.length = t.B.length := keyR_length _ _
    rw [eA, eB] at hT
    refine ⟨?_, by rw [gB]; exact hAB⟩
    rw [gA, gB]
    exact hT
  obtain ⟨hdr, hh⟩ := hdrE
  rw [hh] at h1 h3 h4 hBACK
  have h1' : TbOn KS w base ow Q 86 6 hdr (keyR f t.A) GA SA (keyR f t.B) GB SB := h1
  have HF0 := Lib.hid (FilAt.start (g := g) h1')
  have HBK := Lib.hid hBACK
  have HAB := Lib.hid hAB
  have c3 : w.cell? ⟨Q, 3, none⟩ = some (.slice (some ⟨GA, 0, none⟩) t.A.length t.A.length) := by rw [← h3]; exact h1'.hd.cell (by omega)
  have c4 : w.cell? ⟨Q, 4, none⟩ = some (.slice AB t.B.length t.B.length) := by rw [← h4]; exact h1'.hd.cell (by omega)
  have hQ := World.block_lt_of_cell? w _ c3
  have hrA : w.rowIs GA KS.tb t.A.length SA := by have q := h1'.a.row (by rw [keyR_length]; exact hg.pos); rwa [keyR_length] at q
  have hrB : 0 < t.B.length → w.rowIs GB KS.tb t.B.length SB := fun hp => by have q := h1'.b.row (by rw [keyR_length]; exact hp); rwa [keyR_length] at q
  have hcntN : cnt (t.A ++ t.B) = N := by
    rw [hN]
    unfold allT
    rw [List.length_append, ← cnt_flatten, List.flatten_append, List.length_append]
  have hNm : N ≤ 50000 := by
    have := all_length hg.ct
    have := hg.n
    omega
  have HCN := Lib.hid hcntN
  have HV := Lib.hid hv
  have HVO := Lib.hid hvo
  have hNc : N ≤ c ∧ c ≤ 9223372036854775807 := by
    rcases hv.2 with ⟨q1, q2⟩ | ⟨b, cap, cur, q, _, _, hnc, hcm, _⟩
    · injection q1 with _ q3 q4
      omega
    · injection q with _ _ q
      subst q
      unfold maxLen at hcm
      exact ⟨hnc, hcm⟩
  have hAv : 0 < N → ∃ vb, Av = some ⟨vb, 0, none⟩ ∧ vb < w.heap.size := fun hp => by
    rcases hv.2 with ⟨q1, q2⟩ | ⟨b, cap, cur, q, _⟩
    · omega
    · injection q with q _ _
      subst q
      exact ⟨b, rfl, (hv.lt b rfl).2⟩
  obtain ⟨vb, hvb⟩ : ∃ vb, 0 < N → Av = some ⟨vb, 0, none⟩ ∧ vb < w.heap.size := by
    by_cases hp : 0 < N
    · obtain ⟨vb, q⟩ := hAv hp
      exact ⟨vb, fun _ => q⟩
    · exact ⟨0, fun q => absurd q hp⟩
  have HVB := Lib.hid hvb
  -- the value that stands at a place, in every world in which the values' own block has not turned
  have HVAL : Hid (∀ (X : World) (p j : Nat) (l : List (List UInt8 × Int)) (x : List UInt8 × Int), (∀ k, k < w.heap.size → ow k = none → X.heap[k]? = w.heap[k]?) → (t.A ++ t.B)[p]? = some l → l[j]? = some x → cnt ((t.A ++ t.B).take p) + j < N ∧ X.cell? ⟨vb, cnt ((t.A ++ t.B).take p) + j, none⟩ = some (KS.enc (g x.1))) := by
    intro X p j l x hX hl hx
    have q := vs_all g t hl hx
    have hlt := (List.getElem?_eq_some_iff.1 q).1
    unfold vsL at hlt
    rw [List.length_map, ← hN] at hlt
    obtain ⟨e1, e2⟩ := hvb (by omega)
    have hv' := hv
    rw [e1] at hv'
    have e := World.ownsRow.cellAt hv' (cnt ((t.A ++ t.B).take p) + j) (by omega)
    rw [List.getElem?_map, q] at e
    refine ⟨hlt, (World.cell?_of_block (a := ⟨vb, cnt ((t.A ++ t.B).take p) + j, none⟩) (hX vb e2 (hvo vb (by rw [e1]; rfl)))).trans e⟩
  have HPOS := Lib.hid hg.pos
  have HGA := Lib.hid (show t.A.length ≤ 1000000 ∧ t.B.length ≤ 1000000 from ⟨by have := hg.a; omega, by have := hg.b; omega⟩)
  have hga := hrA.lt
  have HRB := Lib.hid hrB
  have HRA := Lib.hid hrA
  clear h1 h1' hAB eA eB h3 h4 hBACK hh hcntN hv hvo hAv hvb hg hrA hrB hN
  refine (callsIn_wide (n := 11)).1 ?_
  refine callsIn_of_wp_marks Try.func55 rfl trivial ?_
  refine wpIn_wide.2 ?_
  simp only [Try.ntmps55, List.size_toArray, List.length_cons, List.length_nil, Nat.reduceAdd, Nat.reduceSub, Array.replicate_succ, Array.replicate_zero, List.push_toArray, List.append_toArray, List.nil_append, List.cons_append]
  go_wp2_with (go_at_call 83; refine ((callsIn_wide (n := 9)).1 (bucketsMkS_any Q _)).mono ?_; rintro e w2 ⟨rfl, rfl⟩)
  generalize hX1 : World.alloc (World.alloc w _) _ = X1
  have sX : X1.heap.size = w.heap.size + 2 := by rw [← hX1]; simp
  have bX : Below w.heap.size w X1 := by rw [← hX1]; exact ((Below.refl _ _).alloc (Nat.le_refl _) _).alloc (by simp) _
  have vX : Boxed X1 w.heap.size 78 (.slice Av N c) := by rw [← hX1]; exact (Boxed.new w 78 (.slice Av N c)).alloc _
  have qX : Boxed X1 (w.heap.size + 1) 46 (.pointer (some ⟨Q, 0, none⟩)) := by
    rw [← hX1]
    have q := Boxed.new (w.alloc (.cells #[.slice Av N c] 78)) 46 (.pointer (some ⟨Q, 0, none⟩))
    rw [World.size_alloc] at q
    exact q
  clear hX1
  refine range_on2 (n := 10) (gf := 92) (lb := #[.pointer (some ⟨w.heap.size + 1, 0, none⟩)]) rfl (enters_of Try.func92 (by kernel_rfl) rfl) ?_
  rw [sX]
  intro rec W1 hrec hz1 hb1 hD hLo hYm
  have hb1x : Below X1.heap.size X1 W1 := by rw [sX]; exact hb1
  have bW : Below w.heap.size w W1 := bX.trans (hb1x.mono (by omega))
  have vW : Boxed W1 w.heap.size 78 (.slice Av N c) := (hb1x.block _ vX.lt).trans vX
  have qW : Boxed W1 (w.heap.size + 1) 46 (.pointer (some ⟨Q, 0, none⟩)) := (hb1x.block _ qX.lt).trans qX
  have hJ0 : JFi w base ow Q hdr f g t GA SA GB SB vb N c (rec .ready) 0 W1 := by
    refine ⟨HF0.out.keep bW.size bW.os bW.tape bW.output (fun k hk => bW.block k hk), ⟨Av, ?_, ?_⟩, hD, hLo⟩
    · rw [List.take_zero]
      exact vW
    · rw [List.take_zero]
      intro hp
      exact (HVB.out hp).1
  have HIT := buckets2S_in 10 (by omega) (w.heap.size + 3) (w.heap.size + 1) Q t.A.length t.B.length GA GB AB HAB.out KS.tb KS.tb SA SB (slP t.A.length SA SB) (fun k hk => by unfold slP; rw [Nat.zero_add, if_pos hk]) (fun k hk => by unfold slP; rw [if_neg (by omega), Nat.add_sub_cancel_left]) HGA.out.1 HGA.out.2 (JFi w base ow Q hdr f g t GA SA GB SB vb N c (rec .ready)) (fun _ _ => False) ?hY W1 qW.cell ((bW.cell (p := ⟨Q, 3, none⟩) hQ).trans c3) ((bW.cell (p := ⟨Q, 4, none⟩) hQ).trans c4) (HRA.out.of_block (bW.block GA hga)) (fun q => (HRB.out q).of_block (bW.block GB (HRB.out q).lt)) (fun X hX => hJ0.keep bW.size hX)
  case hY =>
    intro p X hp hJ
    obtain ⟨hfil, ⟨A', hbx, hA'⟩, hd, hl⟩ := hJ
    obtain ⟨l, hbl⟩ : ∃ l, (t.A ++ t.B)[p]? = some l := ⟨_, List.getElem?_eq_getElem (by rw [List.length_append]; exact hp)⟩
    obtain ⟨Ab, cb, hsl, hlc, hcm, -⟩ := hfil.item HPOS.out hbl
    have HSL := Lib.hid hsl
    have HBL := Lib.hid hbl
    rw [hsl]
    obtain ⟨ln, hln⟩ : ∃ n, l.length = n := ⟨_, rfl⟩
    have HLN := Lib.hid hln
    rw [hln] at hlc ⊢
    have hk1 : cnt ((t.A ++ t.B).take (p + 1)) = cnt ((t.A ++ t.B).take p) + ln := by rw [cnt_take _ hbl, hln]
    have hkN : cnt ((t.A ++ t.B).take (p + 1)) ≤ N := by rw [← HCN.out]; exact cnt_take_le _ _
    have HVP := Lib.hid (fun (Y : World) (j : Nat) (x : List UInt8 × Int) (hY : ∀ k, k < w.heap.size → ow k = none → Y.heap[k]? = w.heap[k]?) (hx : l[j]? = some x) => HVAL.out Y p j l x hY hbl hx)
    have HJN : Hid (∀ (Z : World) (A2 : Option Addr), FilAt KS w Z base ow Q 86 6 hdr f g t GA SA GB SB p ln → Boxed Z w.heap.size 78 (.slice A2 (N - cnt ((t.A ++ t.B).take p) - ln) (c - cnt ((t.A ++ t.B).take p) - ln)) → (cnt ((t.A ++ t.B).take p) + ln < N → A2 = some ⟨vb, cnt ((t.A ++ t.B).take p) + ln, none⟩) → Z.heap[w.heap.size + 2]? = some (.deferred (some [])) → Z.heap[w.heap.size + 3]? = some (.loop (rec .ready)) → JFi w base ow Q hdr f g t GA SA GB SB vb N c (rec .ready) (p + 1) Z) := by
      intro Z A2 z1 z2 z3 z4 z5
      refine ⟨z1.next hbl hln.symm, ⟨A2, ?_, ?_⟩, z4, z5⟩
      · rw [hk1, Nat.sub_add_eq, Nat.sub_add_eq]
        exact z2
      · rw [hk1]
        exact z3
    obtain ⟨k, hk⟩ : ∃ k, cnt ((t.A ++ t.B).take p) = k := ⟨_, rfl⟩
    rw [hk] at hbx hA' HVP HJN hk1
    obtain ⟨rm, hrm⟩ : ∃ r, N - k = r := ⟨_, rfl⟩
    obtain ⟨cm, hcmE⟩ : ∃ r, c - k = r := ⟨_, rfl⟩
    rw [hrm, hcmE] at hbx HJN
    have hlr : ln ≤ rm := by omega
    have hrc : rm ≤ cm := by omega
    have hcm2 : cm ≤ 9223372036854775807 := by omega
    have HAP := Lib.hid hA'
    have HNK : Hid (∀ j, j < ln → k + j < N) := fun j hj => by omega
    have HKN : Hid (k < N ∨ (rm = 0 ∧ ln = 0)) := by unfold Hid; omega
    have HKE : Hid (k + ln < N → cm ≠ ln) := by unfold Hid; omega
    have hbB : Below w.heap.size w X → True := fun _ => trivial
    refine hYm 9 #[.slice Ab ln cb] X X _ { tmps := #[.pointer (some ⟨Q, 0, none⟩), .slice Av N c, undef, .pointer (some ⟨w.heap.size, 0, none⟩), .slice Ab ln cb, undef, .pointer (some ⟨Q, 0, none⟩), .func (.func 92) #[] #[.pointer (some ⟨w.heap.size + 1, 0, none⟩)], .slice Ab ln cb, undef, undef, undef, undef, undef, undef, undef, undef, undef, undef, undef, undef, undef, undef, undef, undef, undef, undef], defers := [] } rfl hl hl ?_ ?_
    · intro K hK
      gi_wp2
      exact hK
    · obtain ⟨Y, hYe⟩ : ∃ Y, X.putObj (w.heap.size + 2 + 1) (.loop (rec .busy)) = Y := ⟨_, rfl⟩
      rw [hYe]
      have hlt3 : w.heap.size + 3 < X.heap.size := (Array.getElem?_eq_some_iff.1 hl).1
      have oY : ∀ j, j ≠ w.heap.size + 3 → Y.heap[j]? = X.heap[j]? := fun j hj => by rw [← hYe]; exact World.putObj_heap_other hj
      have lY : Y.heap[w.heap.size + 3]? = some (.loop (rec .busy)) := by rw [← hYe]; exact World.putObj_heap_same hlt3
      have sY : Y.heap.size = X.heap.size := by rw [← hYe]; simp
      have HFY : Hid (FilAt KS w Y base ow Q 86 6 hdr f g t GA SA GB SB p 0) := hfil.keep (Nat.le_of_eq sY.symm) (by rw [← hYe]; rfl) (by rw [← hYe]; rfl) (by rw [← hYe]; rfl) (fun j hj => oY j (by omega))
      have hbY : Boxed Y w.heap.size 78 (.slice A' rm cm) := (oY _ (by omega)).trans hbx
      have HBY := Lib.hid hbY
      have HDY := Lib.hid ((oY (w.heap.size + 2) (by omega)).trans hd)
      have HLY := Lib.hid lY
      have HKY : Hid (KpRS GA GB t.B.length X Y) := ⟨oY _ (by omega), fun q => oY _ (by have := (HRB.out q).lt; omega)⟩
      have HGL := Lib.hid hga
      have HSZ := Lib.hid hlt3
      clear hYe oY lY sY hfil hbx hd hl hbY hsl hbl hln hp hYm hJ0 vW qW bW hb1x hb1 hD hLo hz1 vX qX bX hk1 hA' hk hrm hcmE hkN hlt3
      gi_wp2
      gi_loopw [5, 11] (fun _ jv wr => ∃ j : Nat, jv = .int .i64 j ∧ j ≤ ln ∧ FilAt KS w wr base ow Q 86 6 hdr f g t GA SA GB SB p j ∧ Boxed wr w.heap.size 78 (.slice A' rm cm) ∧ wr.heap[w.heap.size + 2]? = some (.deferred (some [])) ∧ wr.heap[w.heap.size + 3]? = some (.loop (rec .busy)) ∧ KpRS GA GB t.B.length X wr) (fun _ jv _ => ln - (intOf jv).toNat)
      case atStart => exact ⟨0, rfl, Nat.zero_le _, HFY.out, HBY.out, HDY.out, HLY.out, HKY.out⟩
      case round =>
        obtain ⟨j, rfl, hj, hfil, hbx, hd, hl, hkp⟩ := hrel
        by_cases hjl : j < ln
        · obtain ⟨x, hx⟩ : ∃ x, l[j]? = some x := ⟨_, List.getElem?_eq_getElem (by rw [HLN.out]; exact hjl)⟩
          obtain ⟨A2, c2, hs2, _, _, hit⟩ := hfil.item HPOS.out HBL.out
          rw [HSL.out] at hs2
          injection hs2 with hs2 _ _
          subst hs2
          obtain ⟨b, rfl, q1, q2, q3, ⟨u, q4⟩, q5, q6, q7⟩ := hit x hx
          have hval := (HVP.out wr j x (fun kk hk1 hk2 => by obtain ⟨o', _, z, _⟩ := hfil.on; exact z.block kk hk1 hk2) hx).2
          obtain rfl := HAP.out (by have := HNK.out j hjl; omega)
          have hc := hbx.cell
          obtain ⟨V, hV⟩ : ∃ V, KS.enc (g x.1) = V := ⟨_, rfl⟩
          rw [hV] at hval q7
          have hV1 : V.oneCell' = true := by rw [← hV]; rfl
          obtain ⟨T, rfl⟩ : ∃ T, V = .string T := ⟨_, hV.symm⟩
          have hjr : j < rm := by omega
          have HQ7 := Lib.hid q7
          have hbs : ∀ kk, kk ≠ b → (wr.setCell ⟨b, j * 2 + 1, none⟩ (.string T)).heap[kk]? = wr.heap[kk]? := fun kk hk => Below.heap_setCell _ _ _ _ hk
          have HBX2 : Hid (Boxed (wr.setCell ⟨b, j * 2 + 1, none⟩ (.string T)) w.heap.size 78 (.slice (some ⟨vb, k, none⟩) rm cm)) := (hbs _ (by omega)).trans hbx
          have HD2 := Lib.hid ((hbs (w.heap.size + 2) (by omega)).trans hd)
          have HL2 := Lib.hid ((hbs (w.heap.size + 3) (by omega)).trans hl)
          have HK2 : Hid (KpRS GA GB t.B.length X (wr.setCell ⟨b, j * 2 + 1, none⟩ (.string T))) := hkp.t ⟨hbs _ (fun e => q2 e.symm), fun q => hbs _ (fun e => q3 q e.symm)⟩
          clear hbs q7 hV hV1 hit hkp hd hl hfil hbx
          gi_wp2
          go_roundw
          case rel => exact ⟨j + 1, by go_num, by omega, HQ7.out, HBX2.out, HD2.out, HL2.out, HK2.out⟩
          case measure => simp only [intOf]; omega
        · obtain rfl : j = ln := by omega
          have hc := hbx.cell
          have hf := hbx.frozen
          have HFI := Lib.hid hfil
          have HBX := Lib.hid hbx
          have HD2 := Lib.hid hd
          have HL2 := Lib.hid hl
          have HK2 := Lib.hid hkp
          have HEND : Hid (∀ A2 : Option Addr, (k + j < N → A2 = some ⟨vb, k + j, none⟩) → (wr.setCell ⟨w.heap.size, 0, none⟩ (.slice A2 (rm - j) (cm - j))).heap[w.heap.size + 2 + 1]? = some (.loop (rec .busy)) ∧ JFi w base ow Q hdr f g t GA SA GB SB vb N c (rec .ready) (p + 1) ((wr.setCell ⟨w.heap.size, 0, none⟩ (.slice A2 (rm - j) (cm - j))).putObj (w.heap.size + 2 + 1) (.loop (rec .ready))) ∧ KpRS GA GB t.B.length X ((wr.setCell ⟨w.heap.size, 0, none⟩ (.slice A2 (rm - j) (cm - j))).putObj (w.heap.size + 2 + 1) (.loop (rec .ready)))) := by
            intro A2 hA2
            obtain ⟨W3, hW3⟩ : ∃ W3, wr.setCell ⟨w.heap.size, 0, none⟩ (.slice A2 (rm - j) (cm - j)) = W3 := ⟨_, rfl⟩
            have o3 : ∀ kk, kk ≠ w.heap.size → W3.heap[kk]? = wr.heap[kk]? := fun kk hk => by rw [← hW3]; exact Below.heap_setCell _ _ _ _ hk
            have s3 : W3.heap.size = wr.heap.size := by rw [← hW3]; simp [World.setCell]
            have v3 : Boxed W3 w.heap.size 78 (.slice A2 (rm - j) (cm - j)) := by rw [← hW3]; exact HBX.out.set _
            have t3 : W3.os = wr.os ∧ W3.tape = wr.tape ∧ W3.output = wr.output := by rw [← hW3]; exact ⟨rfl, rfl, rfl⟩
            rw [hW3]
            have hl3 : w.heap.size + 3 < W3.heap.size := by rw [s3]; exact (Array.getElem?_eq_some_iff.1 HL2.out).1
            obtain ⟨Z, hZ⟩ : ∃ Z, W3.putObj (w.heap.size + 3) (.loop (rec .ready)) = Z := ⟨_, rfl⟩
            have oZ : ∀ kk, kk ≠ w.heap.size + 3 → Z.heap[kk]? = W3.heap[kk]? := fun kk hk => by rw [← hZ]; exact World.putObj_heap_other hk
            have lZ : Z.heap[w.heap.size + 3]? = some (.loop (rec .ready)) := by rw [← hZ]; exact World.putObj_heap_same hl3
            have sZ : Z.heap.size = wr.heap.size := by rw [← hZ, World.putObj_size, s3]
            have tZ : Z.os = wr.os ∧ Z.tape = wr.tape ∧ Z.output = wr.output := by rw [← hZ]; exact t3
            rw [show w.heap.size + 2 + 1 = w.heap.size + 3 from rfl, hZ]
            have hlw := HGL.out
            refine ⟨(o3 _ (by omega)).trans HL2.out, HJN.out Z A2 (HFI.out.keep (Nat.le_of_eq sZ.symm) tZ.1 tZ.2.1 tZ.2.2 (fun kk hk => (oZ kk (by omega)).trans (o3 kk (by omega)))) ((oZ _ (by omega)).trans v3) hA2 ((oZ _ (by omega)).trans ((o3 _ (by omega)).trans HD2.out)) lZ, HK2.out.t ⟨(oZ _ (by omega)).trans (o3 _ (by omega)), fun q => (oZ _ (by have := (HRB.out q).lt; omega)).trans (o3 _ (by have := (HRB.out q).lt; omega))⟩⟩
          clear hfil hbx hd hl hkp
          by_cases hcj : cm = j
          · subst hcj
            obtain rfl : rm = cm := by omega
            gi_wp2
            have q := HEND.out A' (fun h => absurd rfl (HKE.out h))
            simp only [Nat.sub_self] at q
            exact q
          · gi_wp2
            refine HEND.out _ (fun h => ?_)
            rw [HAP.out (by omega)]
            simp [Addr.add]
  refine HIT.mono ?_
  rintro e W2 ⟨⟨v, rfl⟩, hJ | ⟨_, _, hf⟩⟩
  · obtain ⟨hfil, -, hd, hl⟩ := hJ
    refine ⟨v, rfl, hl, ?_⟩
    have hlt3 : w.heap.size + 3 < W2.heap.size := (Array.getElem?_eq_some_iff.1 hl).1
    obtain ⟨Z, hZ⟩ : ∃ Z, W2.putObj (w.heap.size + 2 + 1) (.loop (rec .exhausted)) = Z := ⟨_, rfl⟩
    have oZ : ∀ kk, kk ≠ w.heap.size + 3 → Z.heap[kk]? = W2.heap[kk]? := fun kk hk => by rw [← hZ]; exact World.putObj_heap_other hk
    have hK : Z.heap[w.heap.size + 2]? = some (.deferred (some [])) := (oZ _ (by omega)).trans hd
    have sZ : Z.heap.size = W2.heap.size := by rw [← hZ]; simp
    have tZ : Z.os = W2.os ∧ Z.tape = W2.tape ∧ Z.output = W2.output := by rw [← hZ]; exact ⟨rfl, rfl, rfl⟩
    have HE : Hid (∃ o', P2 (Z.putObj (w.heap.size + 2) (.deferred none)) base o' Q seed (keyT g t) GA SA GB SB AB ∧ Turns ow o' w (Z.putObj (w.heap.size + 2) (.deferred none))) := by
      have q := hfil.keep (w' := Z.putObj (w.heap.size + 2) (.deferred none)) (by rw [World.putObj_size, sZ]; exact Nat.le_refl _) tZ.1 tZ.2.1 tZ.2.2 (fun kk hk => (World.putObj_heap_other (by omega)).trans (oZ kk (by omega)))
      obtain ⟨o', h1, h2⟩ := q.done
      exact ⟨o', HBK.out _ o' h1, h2⟩
    rw [hZ]
    clear hZ oZ sZ tZ hfil hd hl
    show bodyPostM _ _ _ _ _ Exit.normal _ _
    refine ⟨by simp, .inl ⟨_, _, rfl, run_takeDeferred hK, ?_⟩⟩
    exact ⟨_, results_none rfl _ _ _, rfl, HE.out⟩
  · exact hf.elim
end

section
open Go.RowKit Go.Shelf

attribute [local go_sem] Oper.semAt_some

/-- An item whose key is short. -/
def ItS := { x : List UInt8 × Int // x.1.length ≤ 1000 }

/-- Rows of pairs stay as they are. -/
def KpP (W W' : World) : Prop := ∀ (k : Nat) (cs : Array Value) (fr : Nat × Nat), W.heap[k]? = some (.cells cs 95 fr) → W'.heap[k]? = W.heap[k]?

theorem KpP.t {A B C : World} (h : KpP A B) (k : KpP B C) : KpP A C := fun j cs fr hj => (k j cs fr ((h j cs fr hj).trans hj)).trans (h j cs fr hj)
theorem KpP.below {A B : World} (h : Below A.heap.size A B) : KpP A B := fun j _ _ hj => h.block j (Array.getElem?_eq_some_iff.1 hj).1
theorem KpP.row {W W' : World} {base n : Nat} {v : Value} {xs : List Value} (h : W.ownsRow base 95 2 v n xs) (k : KpP W W') : W'.ownsRow base 95 2 v n xs := by
  refine ownsRow_of_block h (fun b hb => ?_)
  rcases h.2 with ⟨q, _⟩ | ⟨g, cap, cur, q, _, hg, _⟩
  · rw [q] at hb; cases hb
  · rw [q] at hb
    injection hb with hb
    subst hb
    exact k g _ _ hg

set_option maxRecDepth 100000 in
set_option maxHeartbeats 16000000 in
theorem all1I_stops {base Q seed m : Nat} {ow : Own} {t : Tb Int} {gA gB : Nat} {sA sB : Nat → Value} (n : Nat) (hn : 1 ≤ n) (A : Nat) (w : World) (h : PT KI w base ow Q 67 seed t gA sA gB sB) (hg : Good (hashT seed) m t) (hm : m ≤ 4000) (hks : KeysT (fun k => k.length ≤ 1000) t)
    (hA : w.cell? ⟨A, 0, none⟩ = some (.pointer (some ⟨Q, 0, none⟩))) (XS : List ItS) (hXS : XS.map (·.1) = allT t) :
    SeqStopsK Fence.wide n Try.prog 77 #[.pointer (some ⟨A, 0, none⟩)] (fun x : ItS => #[.string ⟨x.1.1.toArray⟩, .int .i64 x.1.2]) KpP (fun ys => ys = XS) (fun _ => True) XS.length w := fun l J Jx W hW hJ _ hY h0 => by
  have HP := Lib.hid (pairsI_any W (h.below' hW) hg (by omega) hks)
  have hAW := (hW.cell (p := ⟨A, 0, none⟩) (World.block_lt_of_cell? w _ hA)).trans hA
  have hlen : (allT t).length < 5000 := by have := all_length hg.cnt; have := hg.n; omega
  have hxl : XS.length = (allT t).length := by have := congrArg List.length hXS; simpa using this
  have HXS := Lib.hid hXS
  obtain ⟨L, hL⟩ : ∃ L, allT t = L := ⟨_, rfl⟩
  rw [hL] at HP hlen hxl HXS
  obtain ⟨N, hN⟩ : ∃ N, L.length = N := ⟨_, rfl⟩
  have HN := Lib.hid hN
  have HXL := Lib.hid hxl
  have HY := Lib.hid hY
  have HJ := Lib.hid hJ
  have HJ0 := Lib.hid h0
  clear h hg hks hA hXS hL hY hJ h0 hxl hW
  refine callsIn_of_wp Try.func77 rfl trivial ?_ rfl
  simp only [Try.ntmps77, List.size_toArray, List.length_cons, List.length_nil, Nat.reduceAdd, Nat.reduceSub, Array.replicate_succ, Array.replicate_zero, List.push_toArray, List.append_toArray, List.nil_append, List.cons_append]
  gi_wp2_with (refine ⟨trivial, ?_⟩; gi_at_call 78; refine (callsIn_wide.2 HP.out).mono ?_; rintro e w2 ⟨vp, rfl, hrow, hb2⟩; obtain ⟨Ap, cp, rfl⟩ := own_form hrow; have HROW := Lib.hid hrow; have HB2 := Lib.hid hb2; have HJ2 := Lib.hid (HJ.out _ _ _ none HJ0.out ⟨hb2.os, hb2.tape, hb2.output, hb2.size, fun k hk _ => hb2.block k hk⟩ (fun r e => by cases e)); clear hrow hb2)
  try rw [hN] at HROW
  rw [hN] at hlen
  try rw [hN]
  clear hN
  gi_loopw [8] (fun iv wr => ∃ (j : Nat), iv = .int .i64 j ∧ j ≤ N ∧ J (XS.take j) wr ∧ W.heap.size ≤ wr.heap.size ∧ wr.ownsRow W.heap.size 95 2 (.slice Ap N cp) N (encIt KI.enc L)) (fun iv _ => N - (intOf iv).toNat)
  case atStart => exact ⟨0, rfl, by omega, HJ2.out, HB2.out.size, HROW.out⟩
  case round =>
    obtain ⟨j, rfl, hj, hJr, hsr, hpr⟩ := hrel
    by_cases hlt : j < N
    · obtain ⟨⟨k, v⟩, hx⟩ : ∃ x, L[j]? = some x := ⟨_, List.getElem?_eq_getElem (by rw [HN.out]; exact hlt)⟩
      obtain ⟨x, hxx⟩ : ∃ x, XS[j]? = some x := ⟨_, List.getElem?_eq_getElem (by rw [HXL.out, HN.out]; exact hlt)⟩
      have hxv : x.1 = (k, v) := by
        have q := congrArg (fun z => z[j]?) HXS.out
        simp only [List.getElem?_map, hxx, hx, Option.map_some, Option.some.injEq] at q
        exact q
      have hk : k.length ≤ 1000 := by have q := x.2; rw [hxv] at q; exact q
      have HTK : Hid (XS.take (j + 1) = XS.take j ++ [x]) := by unfold Hid; rw [List.take_add_one, hxx]; rfl
      obtain ⟨g, rfl⟩ : ∃ g, Ap = some ⟨g, 0, none⟩ := by
        rcases hpr.2 with ⟨q, q2⟩ | ⟨g, cap, cur, q, _⟩
        · omega
        · injection q with q
          exact ⟨g, q⟩
      have e0 := (World.ownsRow.cellAt hpr (j * 2) (by omega)).trans (encIt_get KI.enc L j _ hx).1
      have e1 := (World.ownsRow.cellAt hpr (j * 2 + 1) (by omega)).trans (encIt_get KI.enc L j _ hx).2
      obtain ⟨K, hK⟩ : ∃ K : ByteArray, (⟨k.toArray⟩ : ByteArray) = K := ⟨_, rfl⟩
      dsimp only at e0
      replace e1 : wr.cell? ⟨g, j * 2 + 1, none⟩ = some (.int .i64 v) := e1
      rw [hK] at e0
      have hKs : K.size ≤ 1000 := by rw [← hK]; simpa [ByteArray.size] using hk
      have HCL := Lib.hid (fun X => clone_any K X (by omega))
      obtain ⟨wb, hwb⟩ : ∃ wb, wr.alloc (.cells #[.string K, .int .i64 v] 95) = wb := ⟨_, rfl⟩
      have hqb := heap_alloc_new wr (.cells #[.string K, .int .i64 v] 95)
      have hbb : Below wr.heap.size wr wb := by rw [← hwb]; exact (Below.refl _ _).alloc (Nat.le_refl _) _
      have hsb : wb.heap.size = wr.heap.size + 1 := by rw [← hwb]; simp
      rw [hwb] at hqb
      have HST : Hid (∀ X, Below wb.heap.size wb X → X.cell? ⟨wr.heap.size, 0, none⟩ = some (.string K) ∧ X.cell? ⟨wr.heap.size, 1, none⟩ = some (.int .i64 v)) := fun X hX => by
        have hq := (hX.block wr.heap.size (by omega)).trans hqb
        exact ⟨by simp [World.cell?, hq], by simp [World.cell?, hq]⟩
      have HYI : Hid (∀ X, Below wb.heap.size wb X → YieldAt Fence.wide (n - 1) Try.prog l #[.string K, .int .i64 v] X fun e W' => ∃ b : Bool, e = .returned (.bool b) ∧ ((b = true ∧ J (XS.take (j + 1)) W' ∧ W.heap.size ≤ W'.heap.size ∧ W'.ownsRow W.heap.size 95 2 (.slice (some ⟨g, 0, none⟩) N cp) N (encIt KI.enc L)) ∨ (b = false ∧ Jx (XS.take (j + 1)) W'))) := fun X hX => by
        have hX2 : Below wr.heap.size wr X := hbb.trans (hX.mono (by omega))
        have hJX := HJ.out _ _ _ none hJr ⟨hX2.os, hX2.tape, hX2.output, hX2.size, fun k hk _ => hX2.block k hk⟩ (fun r e => by cases e)
        have q := HY.out (XS.take j) x X hJX (by rw [List.length_take, HXL.out, HN.out]; omega)
        rw [hxv, hK] at q
        have hrX := ownsRow_of_block hpr (w' := X) (fun b hb => hX2.block b (hpr.lt b hb).2)
        obtain ⟨fn, tmps, assign, body, hy, hR⟩ := q
        refine ⟨fn, tmps, assign, body, hy, hR.mono ?_⟩
        rintro e W' (⟨rfl, h1, h2⟩ | ⟨rfl, h1⟩)
        · exact ⟨true, rfl, .inl ⟨rfl, by rw [HTK.out]; exact h1, by have q := (KpP.row hrX h2).lt g rfl; omega, KpP.row hrX h2⟩⟩
        · exact ⟨false, rfl, .inr ⟨rfl, by rw [HTK.out]; exact h1⟩⟩
      have HWB := Lib.hid hwb
      obtain ⟨M, hM⟩ : ∃ M, wr.heap.size = M := ⟨_, rfl⟩
      rw [hM] at HST
      have HM := Lib.hid hM
      obtain ⟨y0, y1⟩ := HST.out wb (Below.refl _ _)
      have hcp : N ≤ 9223372036854775807 := by omega
      clear hqb hbb hsb hpr hx hxx hxv hk hK hwb hM HN HROW hJr hsr
      gi_wp2
      rw [HWB.out, HM.out]
      gi_region_with (first
        | (refine HR.out.mono ?_; rintro en w5 ⟨b, rfl, hb5⟩; have HB5 := Lib.hid hb5; clear hb5)
        | (refine ⟨trivial, ?_⟩; gi_at_call 59; refine (callsIn_wide.2 (HCL.out _)).mono ?_; rintro en w4 ⟨rfl, hb4⟩; have HX4 : Hid (Below wb.heap.size wb w4) := (by first | exact hb4 | exact (Below.refl wb.heap.size wb).drew.trans hb4); obtain ⟨x0, x1⟩ := HST.out w4 HX4.out; obtain ⟨fn, tmps, assign, body, hy, hR⟩ := HYI.out w4 HX4.out; have HR := Lib.hid hR; clear hR hb4))
      all_goals
        rcases HB5.out with ⟨rfl, q1, q2, q3⟩ | ⟨rfl, q1⟩
        · have HQ := Lib.hid (And.intro q1 (And.intro q2 q3))
          clear q1 q2 q3 HB5
          gi_wp2
          go_roundw
          case rel => exact ⟨j + 1, by go_num, by omega, HQ.out.1, HQ.out.2.1, HQ.out.2.2⟩
          case measure => simp only [intOf]; omega
        · have HQ := Lib.hid q1
          clear q1 HB5
          gi_wp2
          refine bodyPost_ret (results_none rfl _ _ _) rfl ?_
          exact ⟨⟨_, rfl⟩, .inr ⟨_, trivial, HQ.out⟩⟩
    · obtain rfl : j = N := by omega
      have HE : Hid (XS.take j = XS) := by unfold Hid; exact List.take_of_length_le (by rw [HXL.out, HN.out]; exact Nat.le_refl _)
      have HJE := Lib.hid hJr
      clear hJr hpr
      gi_wp2
      go_end0
      exact ⟨⟨_, rfl⟩, .inl ⟨_, rfl, by rw [← HE.out]; exact HJE.out⟩⟩
end

section
open Go.RowKit Go.Shelf

attribute [local go_sem] Oper.semAt_some

/-- A deferred function that may recover, in the wide fence. -/
theorem deferred_wide {P : Program} {n : Nat} {f : FuncId} {fn : Func} {c : Code} {args : Array Value} {u : FrameMode} {w : World} {R : Ending → FrameMode → World → Prop}
    (hf : P.funcs[f]? = some fn) (hb : fn.body = some c)
    (h : ∀ (c₀ : Frame) (cs : List Frame), c₀.mode = u → c.wpS P (bodyPostS P fn c₀ cs R) { tmps := args ++ Array.replicate (fn.ntmps - args.size) undef, defers := [] } (c₀ :: cs) w) :
    CallsDIn Fence.wide n P f args u w R := by
  refine ⟨trivial, fun c₀ cs hu _ => ?_⟩
  obtain ⟨b, hbd⟩ : ∃ b : Frame, b = { (default : Frame) with fn := f, kind := .deferred } := ⟨_, rfl⟩
  have hent : Frame.enter P f args .deferred = b.at { tmps := args ++ Array.replicate (fn.ntmps - args.size) undef, defers := [] } [.code c] := by
    rw [hbd]
    simp [Frame.enter, Frame.at, hf, hb]
  obtain ⟨e, a', cs', w', hq, harr⟩ := h c₀ cs hu b [] (by rw [hbd]) (by rw [hbd]; rfl)
  rw [← hent] at harr
  have hk : b.kind = .deferred := by rw [hbd]
  have hn : b.fn = f := by rw [hbd]
  have hm : b.mode = .run := by rw [hbd]; rfl
  cases e with
  | outgrown =>
    obtain ⟨u', hR⟩ := hq
    exact ⟨.outgrown, u', w', b, hR, harr.resolve_left (by rw [hk]; simp), hk, hn, trivial⟩
  | normal =>
    obtain ⟨hd, u', hcs, v, hr, hR⟩ := hq
    rw [hcs] at harr
    exact ⟨.returned v, u', w', _, hR, comesIn_wide.2 (Steps.trans harr (.one step_end)), hk, hn, rfl, hd, fn, by show P.funcs[b.fn]? = _; rw [hn]; exact hf, hr⟩
  | ret =>
    obtain ⟨hd, u', hcs, v, hr, hR⟩ := hq
    rw [hcs] at harr
    obtain ⟨todo, hs⟩ := harr
    exact ⟨.returned v, u', w', _, hR, comesIn_wide.2 hs, hk, hn, rfl, hd, fn, by show P.funcs[b.fn]? = _; rw [hn]; exact hf, hr⟩
  | panic chain =>
    obtain ⟨hd, u', hcs, hR⟩ := hq
    rw [hcs] at harr
    obtain ⟨todo, hs⟩ := harr
    exact ⟨.panicked chain, u', w', _, hR, comesIn_wide.2 hs, hk, hn, rfl, hd, fn, by show P.funcs[b.fn]? = _; rw [hn]; exact hf⟩
  | exit id => exact hq.elim
  | goto l => exact hq.elim

set_option maxRecDepth 100000 in
set_option maxHeartbeats 2000000 in
/-- Nothing panics: there is nothing to recover. -/
theorem mapdef_ret (n : Nat) (w : World) : CallsDIn Fence.wide n Try.prog 53 #[] .returning w fun e u' w' => e = .returned (.tuple #[]) ∧ u' = .returning ∧ w' = w := by
  refine deferred_wide Try.func53 rfl fun c₀ cs hu => ?_
  apply wpS_region
  simp [wpOpsS, go_sem, recoverD, hu, Try.ntmps53, bodyPostS, results, Try.results53]
  rw [← hu]

/-- Beside the box and the values' box nothing has turned. -/
def OthG (G B1 : Nat) (w W : World) : Prop := W.os = w.os ∧ W.tape = w.tape ∧ W.output = w.output ∧ w.heap.size ≤ W.heap.size ∧ ∀ k, k < w.heap.size → k ≠ G → k ≠ B1 → W.heap[k]? = w.heap[k]?

theorem othG_own {β : Type} {G B1 B : Nat} {w : World} (hB : w.heap.size ≤ B) : OwnFrom B (fun (_ : β) W => OthG G B1 w W) :=
  fun _ _ _ _ hs hg hr => ⟨hg.os.trans hs.1, hg.tape.trans hs.2.1, hg.output.trans hs.2.2.1, Nat.le_trans hs.2.2.2.1 hg.size, fun k hk h1 h2 => (hg.block k (Nat.lt_of_lt_of_le hk hs.2.2.2.1) (fun e => by have := (hr k e.symm).1; omega)).trans (hs.2.2.2.2 k hk h1 h2)⟩

theorem items_short : ∀ l : List (List UInt8 × Int), (∀ x ∈ l, x.1.length ≤ 1000) → ∃ XS : List ItS, XS.map (·.1) = l
  | [], _ => ⟨[], rfl⟩
  | x :: l, h => by
    obtain ⟨XS, e⟩ := items_short l (fun y hy => h y (List.mem_cons_of_mem _ hy))
    exact ⟨⟨x, h x List.mem_cons_self⟩ :: XS, congrArg (List.cons x) e⟩

theorem info_strT : (Try.prog.info? 9).map (fun i => (i.zero, i.size, i.bytes)) = some (some (.string ⟨#[]⟩), 1, 16) := by kernel_rfl

/-- What the function tells of some items. -/
def telV (pre : List ItS) : List Value := pre.map fun x => Value.string ⟨(telK x.1.1).toArray⟩

theorem telV_snoc (pre : List ItS) (x : ItS) : telV (pre ++ [x]) = telV pre ++ [Value.string ⟨(telK x.1.1).toArray⟩] := by unfold telV; rw [List.map_append]; rfl

theorem KpP.grown {A B : World} {row : Option Nat} (h : A.grownBy B row) (hr : ∀ r, row = some r → ∀ cs fr, A.heap[r]? ≠ some (.cells cs 95 fr)) : KpP A B := fun k cs fr hk => h.block k (Array.getElem?_eq_some_iff.1 hk).1 (fun e => hr k e.symm cs fr hk)

/-- One round of Map: the box counts, the values' row grows. -/
theorem map_step {w4 W w5 w6 w7 : World} {G B1 k g2 c2 : Nat} {v : Value} {xs : List Value} {T : ByteArray} {c : Int} (hv : Boxed W B1 78 v) (hrow : W.ownsRow w4.heap.size 9 1 v k xs) (hG : Boxed W G 3 (.int .i64 c)) (hO : OthG G B1 w4 W) (hne : G ≠ B1) (hB1 : B1 < w4.heap.size) (hGl : G < w4.heap.size)
    (h5 : W.drew.setCell ⟨G, 0, none⟩ (.int .i64 (c + 1)) = w5) (h6 : w5.alloc (.cells #[.string T] 9) = w6) (hown : w7.ownsRow w4.heap.size 9 1 (.slice (some ⟨g2, 0, none⟩) (k + 1) c2) (k + 1) (xs ++ [.string T])) (hgr : w6.grownBy w7 v.ownBlock) (hor : v.ownBlock = some g2 ∨ g2 = W.heap.size + 1) :
    Boxed w7 B1 78 v ∧ KeepsOthers W (w7.setCell ⟨B1, 0, none⟩ (.slice (some ⟨g2, 0, none⟩) (k + 1) c2)) ∧ KpP W (w7.setCell ⟨B1, 0, none⟩ (.slice (some ⟨g2, 0, none⟩) (k + 1) c2)) ∧
      Boxed (w7.setCell ⟨B1, 0, none⟩ (.slice (some ⟨g2, 0, none⟩) (k + 1) c2)) B1 78 (.slice (some ⟨g2, 0, none⟩) (k + 1) c2) ∧ (w7.setCell ⟨B1, 0, none⟩ (.slice (some ⟨g2, 0, none⟩) (k + 1) c2)).ownsRow w4.heap.size 9 1 (.slice (some ⟨g2, 0, none⟩) (k + 1) c2) (k + 1) (xs ++ [.string T]) ∧
      Boxed (w7.setCell ⟨B1, 0, none⟩ (.slice (some ⟨g2, 0, none⟩) (k + 1) c2)) G 3 (.int .i64 (c + 1)) ∧ OthG G B1 w4 (w7.setCell ⟨B1, 0, none⟩ (.slice (some ⟨g2, 0, none⟩) (k + 1) c2)) := by
  have s5 : w5.heap.size = W.heap.size := by rw [← h5]; simp [World.setCell]
  have o5 : ∀ j, j ≠ G → w5.heap[j]? = W.heap[j]? := fun j hj => by rw [← h5]; exact Below.heap_setCell _ _ _ _ hj
  have g5 : Boxed w5 G 3 (.int .i64 (c + 1)) := by rw [← h5]; exact (show Boxed W.drew G 3 (.int .i64 c) from hG).set _
  have s6 : w6.heap.size = W.heap.size + 1 := by rw [← h6, World.size_alloc, s5]
  have o6 : ∀ j, j < W.heap.size → w6.heap[j]? = w5.heap[j]? := fun j hj => by rw [← h6]; exact Below.heap_alloc _ _ _ (by rw [s5]; exact hj)
  have hlo : ∀ b, v.ownBlock = some b → w4.heap.size ≤ b ∧ b < W.heap.size := fun b hb => hrow.lt b hb
  have o7 : ∀ j, j < W.heap.size → v.ownBlock ≠ some j → w7.heap[j]? = w6.heap[j]? := fun j hj hn => hgr.block j (by omega) (fun e => hn e.symm)
  have v7 : Boxed w7 B1 78 v := (o7 B1 hv.lt (fun e => by have := (hlo _ e).1; omega)).trans ((o6 B1 hv.lt).trans ((o5 B1 (fun e => hne e.symm)).trans hv))
  have g7 : Boxed w7 G 3 (.int .i64 (c + 1)) := (o7 G hG.lt (fun e => by have := (hlo _ e).1; omega)).trans ((o6 G hG.lt).trans g5)
  have s7 : W.heap.size + 1 ≤ w7.heap.size := by rw [← s6]; exact hgr.size
  obtain ⟨w8, h8⟩ : ∃ w8, w7.setCell ⟨B1, 0, none⟩ (.slice (some ⟨g2, 0, none⟩) (k + 1) c2) = w8 := ⟨_, rfl⟩
  have o8 : ∀ j, j ≠ B1 → w8.heap[j]? = w7.heap[j]? := fun j hj => by rw [← h8]; exact Below.heap_setCell _ _ _ _ hj
  have s8 : w8.heap.size = w7.heap.size := by rw [← h8]; simp [World.setCell]
  have v8 : Boxed w8 B1 78 (.slice (some ⟨g2, 0, none⟩) (k + 1) c2) := by rw [← h8]; exact v7.set _
  have t8 : w8.os = W.os ∧ w8.tape = W.tape ∧ w8.output = W.output := by
    have a7 := hgr.os
    have b7 := hgr.tape
    have d7 := hgr.output
    rw [← h6, ← h5] at a7 b7 d7
    rw [← h8]
    exact ⟨a7, b7, d7⟩
  have far : ∀ j, j < W.heap.size → j ≠ G → j ≠ B1 → v.ownBlock ≠ some j → w8.heap[j]? = W.heap[j]? := fun j hj h1 h2 h3 => (o8 j h2).trans ((o7 j hj h3).trans ((o6 j hj).trans (o5 j h1)))
  have hobj : ∀ b, v.ownBlock = some b → ∃ cur, W.heap[b]? = some (.cells cur 9) := fun b hb => by
    rcases hrow.2 with ⟨q, _⟩ | ⟨g, cap, cur, q, _, hg, _⟩
    · rw [q] at hb; cases hb
    · rw [q] at hb
      injection hb with hb
      subst hb
      exact ⟨cur, hg⟩
  rw [h8]
  have hG0 : W.heap[G]? = some (.cells #[.int .i64 c] 3) := hG
  have hB0 := hv
  refine ⟨v7, ⟨by omega, fun j o ho hc => ?_⟩, fun j cs fr hj => ?_, v8, ownsRow_of_block hown (fun b hb => o8 b ?_), (o8 G hne).trans g7, t8.1.trans hO.1, t8.2.1.trans hO.2.1, t8.2.2.trans hO.2.2.1, by have := hO.2.2.2.1; omega, fun j hj h1 h2 => (far j (by have := hO.2.2.2.1; omega) h1 h2 (fun e => by have := (hlo _ e).1; omega)).trans (hO.2.2.2.2 j hj h1 h2)⟩
  · have hjl := (Array.getElem?_eq_some_iff.1 ho).1
    refine (far j hjl (fun e => ?_) (fun e => ?_) (fun e => ?_)).trans ho
    · subst e; rw [hG0] at ho; injection ho with ho; subst ho; cases hc
    · subst e; rw [show W.heap[j]? = _ from hB0] at ho; injection ho with ho; subst ho; cases hc
    · obtain ⟨cur, hcur⟩ := hobj j e
      rw [hcur] at ho; injection ho with ho; subst ho; cases hc
  · have hjl := (Array.getElem?_eq_some_iff.1 hj).1
    refine far j hjl (fun e => ?_) (fun e => ?_) (fun e => ?_)
    · subst e; rw [hG0] at hj; simp at hj
    · subst e; rw [show W.heap[j]? = _ from hB0] at hj; simp at hj
    · obtain ⟨cur, hcur⟩ := hobj j e
      rw [hcur] at hj; simp at hj
  · have hb2 : some g2 = some b := hb
    injection hb2 with hb2
    rcases hor with q | q
    · have := (hlo _ q).1; omega
    · have := hv.lt; omega

set_option maxRecDepth 100000 in
set_option maxHeartbeats 32000000 in
theorem map_any {b1 Q1 seed m G : Nat} {o1 : Own} {t : Tb Int} {gA gB : Nat} {sA sB : Nat → Value} (w : World) (h : PT KI w b1 o1 Q1 67 seed t gA sA gB sB) (hg : Good (hashT seed) m t) (hm : m ≤ 4000) (hks : KeysT (fun k => k.length ≤ 1000) t) (hc : Boxed w G 3 (.int .i64 0)) :
    Calls Try.prog 22 #[.pointer (some ⟨Q1, 0, none⟩), .func (.func 23) #[] #[.pointer (some ⟨G, 0, none⟩)]] w fun e w' => ∃ b2 Q ow GA SA GB SB AB, e = .returned (.pointer (some ⟨Q, 0, none⟩)) ∧ w.heap.size ≤ b2 ∧ P2 w' b2 ow Q seed (keyT telK t) GA SA GB SB AB ∧ Boxed w' G 3 (.int .i64 t.n) ∧ w.grownBy w' (some G) := by
  have hmf : ∀ (fn : Fn) (first cap : Array Value) (w : World), (Instr.makeFunc fn first cap).run Try.prog w = .ok (.func fn first cap) w := fun _ _ _ _ => rfl
  have hng : ∀ (W : World) (f : Fn) (a b : Array Value), (binOp .eql 48 (.func f a b) .nilFunc).run Try.prog W = .ok (.bool false) W := fun _ _ _ _ => by first | rfl | kernel_rfl
  have c0 : w.cell? ⟨Q1, 0, none⟩ = some (.pointer (some ⟨Q1, 0, none⟩)) := h.hd.cell (by omega)
  have hQ1 := World.block_lt_of_cell? w _ c0
  have HM := Lib.hid (fun (X : World) (hX : Below w.heap.size w X) => isMadeI_any Q1 X ((hX.cell (p := ⟨Q1, 0, none⟩) hQ1).trans c0))
  have HP := Lib.hid h
  have HG := Lib.hid hg
  have HKS := Lib.hid hks
  have HBARE := Lib.hid (fun (X : World) (hX : Below w.heap.size w X) => bare_any X (h.below' hX) hg.fit (by omega) hks)
  have HC := Lib.hid hc
  clear h hg hks c0 hc
  refine (callsIn_wide (n := 11)).1 ?_
  refine callsIn_of_wp_marks Try.func22 rfl trivial ?_ rfl
  refine wpIn_wide.2 ?_
  simp only [Try.ntmps22, List.size_toArray, List.length_cons, List.length_nil, Nat.reduceAdd, Nat.reduceSub, Array.replicate_succ, Array.replicate_zero, List.push_toArray, List.append_toArray, List.nil_append, List.cons_append]
  go_wp2_with fail
  obtain ⟨wz, hwz⟩ : ∃ wz, w.alloc (.cells #[.func (.func 23) #[] #[.pointer (some ⟨G, 0, none⟩)]] 48) = wz := ⟨_, rfl⟩
  have hbz : Below w.heap.size w wz := by rw [← hwz]; exact (Below.refl _ _).alloc (Nat.le_refl _) _
  have hfz : Boxed wz w.heap.size 48 (.func (.func 23) #[] #[.pointer (some ⟨G, 0, none⟩)]) := by rw [← hwz]; exact Boxed.new w _ _
  have hsz : wz.heap.size = w.heap.size + 1 := by rw [← hwz]; simp
  rw [hwz]
  have cz := hfz.cell
  have HBZ := Lib.hid hbz
  have HFZ := Lib.hid hfz
  clear hwz hbz hfz
  refine (HM.out _ HBZ.out).mono ?_
  rintro e w1 ⟨rfl, rfl⟩
  go_wp2_with fail
  refine (HBARE.out _ HBZ.out).mono ?_
  rintro e w2 ⟨Q, ow, GA, SA, GB, SB, AB, rfl, hp2, hb2⟩
  have HP2 := Lib.hid hp2
  have HB2 := Lib.hid (HBZ.out.trans (hb2.mono HBZ.out.size))
  have HF2 : Hid (Boxed w2 w.heap.size 48 (.func (.func 23) #[] #[.pointer (some ⟨G, 0, none⟩)])) := (hb2.block _ HFZ.out.lt).trans HFZ.out
  clear hp2 hb2
  go_wp2_with fail
  obtain ⟨w3, hw3⟩ : ∃ w3, w2.alloc (.cells #[.slice none 0 0] 78) = w3 := ⟨_, rfl⟩
  rw [hw3]
  refine (allI_any (some ⟨Q1, 0, none⟩) w3).mono ?_
  rintro e w4 ⟨rfl, hw4⟩
  obtain ⟨B1, hB1⟩ : ∃ B1, w2.heap.size = B1 := ⟨_, rfl⟩
  have hb3 : Below B1 w2 w3 := by rw [← hw3, ← hB1]; exact (Below.refl _ _).alloc (Nat.le_refl _) _
  have hv3 : Boxed w3 B1 78 (.slice none 0 0) := by rw [← hw3, ← hB1]; exact Boxed.new w2 _ _
  have hs3 : w3.heap.size = B1 + 1 := by rw [← hw3, ← hB1]; simp
  have hb4 : Below w3.heap.size w3 w4 := by rw [hw4]; exact (Below.refl _ _).alloc (Nat.le_refl _) _
  have hq4 := heap_alloc_new w3 (.cells #[.pointer (some ⟨Q1, 0, none⟩)] 28)
  rw [← hw4, hs3] at hq4
  have hA4 : w4.cell? ⟨B1 + 1, 0, none⟩ = some (.pointer (some ⟨Q1, 0, none⟩)) := by simp [World.cell?, hq4]
  have hs4 : w4.heap.size = B1 + 2 := by rw [hw4]; simp [hs3]
  have hv4 : Boxed w4 B1 78 (.slice none 0 0) := (hb4.block _ (by omega)).trans hv3
  have hb24 : Below B1 w2 w4 := hb3.trans (hb4.mono (by omega))
  have HB24 := Lib.hid (show Below w2.heap.size w2 w4 from by rw [hB1]; exact hb24)
  have HB4 := Lib.hid (HB2.out.trans (HB24.out.mono HB2.out.size))
  have hwB : w.heap.size < B1 := by have := HF2.out.lt; omega
  have HW2B : Hid (w2.heap.size ≤ B1) := Nat.le_of_eq hB1
  have HV4 := Lib.hid hv4
  have HS4 := Lib.hid hs4
  rw [hs3, hB1]
  clear hw3 hw4 hb3 hv3 hs3 hb4 hq4 hv4 hs4 hb24 hB1
  obtain ⟨XS, hXS⟩ := items_short (allT t) (keys_all HKS.out)
  have HXS := Lib.hid hXS
  have hxl : XS.length = t.n := by have q := congrArg List.length hXS; rw [List.length_map, all_length HG.out.cnt] at q; exact q
  have hxm : XS.length ≤ 4000 := by have := HG.out.n; omega
  have HXL := Lib.hid hxl
  have HST := Lib.hid (all1I_stops 9 (by omega) (B1 + 1) w4 (HP.out.below' HB4.out) HG.out hm HKS.out hA4 XS hXS)
  clear hXS hxl hA4
  have hG4 : Boxed w4 G 3 (.int .i64 0) := (HB4.out.block G HC.out.lt).trans HC.out
  have hGw : G < w.heap.size := HC.out.lt
  have hF4 : Boxed w4 w.heap.size 48 (.func (.func 23) #[] #[.pointer (some ⟨G, 0, none⟩)]) := (HB24.out.block _ HF2.out.lt).trans HF2.out
  have HF4 := Lib.hid hF4
  have HG4 := Lib.hid hG4
  have hs4 := HS4.out
  clear hG4 hF4
  go_wp2_with fail
  refine (wpIn_wide (n := 10)).1 ?_
  refine wpIn_rangeFunc_ownF rfl (by omega) (gf := 77) (lb := #[.pointer (some ⟨B1 + 1, 0, none⟩)]) rfl trivial (enters_of Try.func77 (by kernel_rfl) rfl) HST.out (fun h k => h.t k)
    (fun W l o o' _ h ho _ => fun k cs fr hk => World.putObj_heap_other (fun e => by subst e; rw [h] at hk; injection hk with hk; subst hk; cases ho)) (Below.refl _ _) (fun _ => rfl)
    (fun pre W => ((∃ v, Boxed W B1 78 v ∧ W.ownsRow w4.heap.size 9 1 v pre.length (telV pre) ∧ True) ∧ Boxed W G 3 (.int .i64 (pre.length : Nat))) ∧ OthG G B1 w4 W)
    (fun _ _ _ => False)
    (OwnFrom.and (OwnFrom.and (Own.from (holdsRow_own w4.heap.size B1 78 9 1 (fun (pre : List ItS) => pre.length) (fun pre => telV pre) (fun _ _ => True)) _) (Own.from (boxed_own G 3 (fun (pre : List ItS) => .int .i64 (pre.length : Nat))) _)) (othG_own (Nat.le_refl _)))
    (fun _ _ _ _ _ hs _ _ => hs)
    ⟨⟨⟨_, HV4.out, World.ownsRow_nil _ _ _ _, trivial⟩, HG4.out⟩, rfl, rfl, rfl, Nat.le_refl _, fun _ _ _ _ => rfl⟩
    (fun x => { tmps := #[.pointer (some ⟨Q1, 0, none⟩), .func (.func 23) #[] #[.pointer (some ⟨G, 0, none⟩)], undef, .pointer (some ⟨w.heap.size, 0, none⟩), .pointer none, .pointer (some ⟨Q, 0, none⟩), .pointer (some ⟨B1, 0, none⟩), .string ⟨x.1.1.toArray⟩, .int .i64 x.1.2, .pointer (some ⟨Q1, 0, none⟩), .bool true, .bool false, .bool false, .func (.func 23) #[] #[.pointer (some ⟨G, 0, none⟩)], .bool false, .bool false, .pointer (some ⟨Q1, 0, none⟩), .pointer (some ⟨Q, 0, none⟩), .pointer (some ⟨Q1, 0, none⟩), .func (.func 77) #[] #[.pointer (some ⟨B1 + 1, 0, none⟩)], .string ⟨x.1.1.toArray⟩, .int .i64 x.1.2, undef, undef, undef, undef, undef, undef, undef, undef, undef, undef, undef], defers := [] }) ?assign ?body ?done ?stop
  case assign =>
    intro l x W K hK
    gi_wp2
    exact hK
  case body =>
    rintro l pre x W ⟨⟨⟨v, hv, hrow, -⟩, hGb⟩, hO⟩ hlt
    have hks2 : x.1.1.length ≤ 1000 := x.2
    have HTV := Lib.hid (telV_snoc pre x)
    obtain ⟨Av, cv, rfl⟩ := own_sliceS hrow
    have HTELL := Lib.hid (fun (X : World) (e1 : X.cell? ⟨G, 0, none⟩ = some (.int .i64 (pre.length : Nat))) (e2 : X.frozen? ⟨G, 0, none⟩ = false) => tell_any x.1.1 x.1.2 X G (pre.length : Nat) (by omega) (by omega) (by omega) e1 e2)
    obtain ⟨K, hK⟩ : ∃ K : ByteArray, (⟨x.1.1.toArray⟩ : ByteArray) = K := ⟨_, rfl⟩
    obtain ⟨V, hV⟩ : ∃ V, x.1.2 = V := ⟨_, rfl⟩
    obtain ⟨T, hT⟩ : ∃ T : ByteArray, (⟨(telK x.1.1).toArray⟩ : ByteArray) = T := ⟨_, rfl⟩
    rw [hK, hV, hT] at HTELL
    rw [hT] at HTV
    rw [hK, hV]
    obtain ⟨k, hk⟩ : ∃ k, pre.length = k := ⟨_, rfl⟩
    have HK := Lib.hid hk
    rw [hk] at hrow hGb HTELL hlt hv
    obtain ⟨Wd, hWd⟩ : ∃ Wd, W.drew = Wd := ⟨_, rfl⟩
    obtain ⟨w5, hw5⟩ : ∃ w5, Wd.setCell ⟨G, 0, none⟩ (.int .i64 ((k : Int) + 1)) = w5 := ⟨_, rfl⟩
    obtain ⟨w6, hw6⟩ : ∃ w6, w5.alloc (.cells #[.string T] 9) = w6 := ⟨_, rfl⟩
    have hF : Boxed W w.heap.size 48 (.func (.func 23) #[] #[.pointer (some ⟨G, 0, none⟩)]) := (hO.2.2.2.2 _ (by omega) (by omega) (by omega)).trans HF4.out
    have dd : ∀ j : Nat, Wd.heap[j]? = W.heap[j]? := fun j => by rw [← hWd]; rfl
    have d5 : ∀ j : Nat, j ≠ G → w5.heap[j]? = Wd.heap[j]? := fun j hj => by rw [← hw5]; exact Below.heap_setCell _ _ _ _ hj
    have s5 : w5.heap.size = W.heap.size := by rw [← hw5, ← hWd]; simp [World.setCell]
    have s6 : w6.heap.size = W.heap.size + 1 := by rw [← hw6, World.size_alloc, s5]
    have d6 : ∀ j : Nat, j < W.heap.size → w6.heap[j]? = w5.heap[j]? := fun j hj => by rw [← hw6]; exact Below.heap_alloc _ _ _ (by rw [s5]; exact hj)
    have vd : Boxed Wd B1 78 (.slice Av k cv) := (dd _).trans hv
    have v5 : Boxed w5 B1 78 (.slice Av k cv) := (d5 _ (by omega)).trans vd
    have v6 : Boxed w6 B1 78 (.slice Av k cv) := (d6 _ hv.lt).trans v5
    have fd : Boxed Wd w.heap.size 48 (.func (.func 23) #[] #[.pointer (some ⟨G, 0, none⟩)]) := (dd _).trans hF
    have f5 : Boxed w5 w.heap.size 48 (.func (.func 23) #[] #[.pointer (some ⟨G, 0, none⟩)]) := (d5 w.heap.size (by omega)).trans fd
    have f6 : Boxed w6 w.heap.size 48 (.func (.func 23) #[] #[.pointer (some ⟨G, 0, none⟩)]) := (d6 w.heap.size hF.lt).trans f5
    have gd : Boxed Wd G 3 (.int .i64 (k : Nat)) := (dd _).trans hGb
    have r6 : w6.ownsRow w4.heap.size 9 1 (.slice Av k cv) k (telV pre) := ownsRow_of_block hrow (fun b hb => (d6 b (hrow.lt b hb).2).trans ((d5 b (by have := (hrow.lt b hb).1; omega)).trans (dd b)))
    have n6 : ∀ (j : Nat) (u : Value), [Value.string T][j]? = some u → w6.cell? ((⟨w5.heap.size, 0, none⟩ : Addr).add j) = some u := by
      rw [← hw6]
      exact World.news_of_block (cs := #[.string T]) (t := 9) (fr := (0, 0)) (heap_alloc_new w5 _)
    have HCALL := Lib.hid (HTELL.out Wd gd.cell gd.frozen)
    rw [hw5] at HCALL
    have HV := Lib.hid hv
    have HROW := Lib.hid hrow
    have HGB := Lib.hid hGb
    have HO := Lib.hid hO
    have HVD := Lib.hid vd
    have HV5 := Lib.hid v5
    have HV6 := Lib.hid v6
    have HFD := Lib.hid (show Wd.cell? ⟨w.heap.size, 0, none⟩ = some (.func (.func 23) #[] #[.pointer (some ⟨G, 0, none⟩)]) from fd.cell)
    have HF5 : Hid (w5.cell? ⟨w.heap.size, 0, none⟩ = some (.func (.func 23) #[] #[.pointer (some ⟨G, 0, none⟩)])) := f5.cell
    have HF6 : Hid (w6.cell? ⟨w.heap.size, 0, none⟩ = some (.func (.func 23) #[] #[.pointer (some ⟨G, 0, none⟩)])) := f6.cell
    have HR6 := Lib.hid r6
    have HN6 := Lib.hid n6
    have HW5 := Lib.hid hw5
    have HW6 := Lib.hid hw6
    have HWD := Lib.hid hWd
    have HS5 := Lib.hid s5
    have HS6 := Lib.hid s6
    have hFc := hF.cell
    have hvc := hv.cell
    clear hK hV hT hk dd d5 d6 vd v5 v6 fd f5 f6 gd r6 n6 hv hrow hGb hO hw5 hw6 hWd s5 s6 hF
    gi_wp2
    have hmo : Try.prog.follows .mixedOrders = true := by kernel_rfl
    refine region_round (S := fun X => X.cell? ⟨w.heap.size, 0, none⟩ = some (.func (.func 23) #[] #[.pointer (some ⟨G, 0, none⟩)])) hmo (by kernel_rfl) (by rintro ⟨_, _, hq⟩; exact hq) ?_
    rw [HWD.out]
    refine wpAnyH_take (i := 2) (v := .string K) rfl (by kernel_rfl) (by kernel_rfl) (by kernel_rfl) (fun _ _ _ hq => hq) (Or.inl ⟨by rfl, ?hy2⟩) HFD.out ?_
    case hy2 =>
      intro Wx s0
      go_simp
    refine wpAnyH_take (i := 3) (v := .int .i64 V) rfl (by kernel_rfl) (by kernel_rfl) (by kernel_rfl) (fun _ _ _ hq => hq) (Or.inl ⟨by rfl, ?hy3⟩) HFD.out ?_
    case hy3 =>
      intro Wx s0
      go_simp
    refine wpAnyH_take (i := 1) (v := .func (.func 23) #[] #[.pointer (some ⟨G, 0, none⟩)]) rfl (by kernel_rfl) (by kernel_rfl) (by kernel_rfl) (fun _ _ _ hq => hq) (Or.inl ⟨by rfl, ?hy1⟩) HFD.out ?_
    case hy1 =>
      intro Wx s0
      go_simp
    obtain ⟨is, his, hys⟩ := Option.map_eq_some_iff.1 info_strT
    simp only [Prod.mk.injEq] at hys
    have HIS := Lib.hid hys
    have HFO : Hid (∀ w7, w6.grownBy w7 (Value.slice Av k cv).ownBlock → w7.cell? ⟨w.heap.size, 0, none⟩ = some (.func (.func 23) #[] #[.pointer (some ⟨G, 0, none⟩)])) := fun w7 hgr => (World.cell?_of_block (a := ⟨w.heap.size, 0, none⟩) (hgr.block w.heap.size (by rw [HS6.out]; have := HO.out.2.2.2.1; omega) (fun e => by have := (HROW.out.lt _ e.symm).1; omega))).trans HF6.out
    clear hys
    refine wpAnyH_ready (rs := [0, 4]) (by kernel_rfl) (by simp) ?_
    refine AllReadyH.cons rfl (fun KK hK => ?pa) (AllReadyH.cons rfl (fun KK hK => ?pb) AllReadyH.nil)
    case' pa =>
      have cd := HVD.out.cell
      go_simp
      refine hK.out _ _ HFD.out (fun _ => ?_)
      clear hK KK cd
      refine wpAnyH_ready (rs := [4]) (by kernel_rfl) (by simp) ?_
      refine AllReadyH.cons rfl (fun KK hK => ?_) AllReadyH.nil
      go_simp
      refine (HCALL.out).mono ?_
      rintro en wq ⟨rfl, hwq⟩
      rw [hwq]
      clear hwq wq
      refine hK.out _ _ HF5.out (fun _ => ?_)
      clear hK KK
      refine wpAnyH_ready (rs := [5]) (by kernel_rfl) (by simp) ?_
      refine AllReadyH.cons rfl (fun KK hK => ?_) AllReadyH.nil
      go_simp
      rw [HW6.out]
      refine hK.out _ _ HF6.out (fun _ => ?_)
      clear hK KK
    case' pb =>
      go_simp
      refine (HCALL.out).mono ?_
      rintro en wq ⟨rfl, hwq⟩
      rw [hwq]
      clear hwq wq
      refine hK.out _ _ HF5.out (fun _ => ?_)
      clear hK KK
      refine wpAnyH_ready (rs := [0, 5]) (by kernel_rfl) (by simp) ?_
      refine AllReadyH.cons rfl (fun KK hK => ?pc) (AllReadyH.cons rfl (fun KK hK => ?pd) AllReadyH.nil)
    case' pc =>
      have cd := HV5.out.cell
      go_simp
      refine hK.out _ _ HF5.out (fun _ => ?_)
      clear hK KK cd
      refine wpAnyH_ready (rs := [5]) (by kernel_rfl) (by simp) ?_
      refine AllReadyH.cons rfl (fun KK hK => ?_) AllReadyH.nil
      go_simp
      rw [HW6.out]
      refine hK.out _ _ HF6.out (fun _ => ?_)
      clear hK KK
    case' pd =>
      go_simp
      rw [HW6.out]
      refine hK.out _ _ HF6.out (fun _ => ?_)
      clear hK KK
      refine wpAnyH_ready (rs := [0]) (by kernel_rfl) (by simp) ?_
      refine AllReadyH.cons rfl (fun KK hK => ?_) AllReadyH.nil
      have cd := HV6.out.cell
      go_simp
      refine hK.out _ _ HF6.out (fun _ => ?_)
      clear hK KK cd
    all_goals
      refine wpAnyH_ready (rs := [6]) (by kernel_rfl) (by simp) ?_
      refine AllReadyH.cons rfl (fun KK hK => ?_) AllReadyH.nil
      refine step_append_lies _ (by rfl) _ _ _ (by rfl) w4.heap.size 9 is _ 1 16 Try.underlying78 his HIS.out.1 HIS.out.2.1 HIS.out.2.2 rfl (by omega) (.slice Av k cv) k (telV pre) (by rfl) (by exact HR6.out) ⟨w5.heap.size, 0, none⟩ 1 1 [.string T] (by rfl) (by rfl) (by exact HN6.out) (by simp [Value.oneCell']) (by omega) (by unfold maxLen; omega) (by omega) (by rw [HS6.out]; have := HO.out.2.2.2.1; omega) (W.heap.size + 1) (by exact HS6.out) ?_
      intro g2 c2 w7 hown hgr hor hgg
      have HMS := Lib.hid (map_step HV.out HROW.out HGB.out HO.out (by omega) (by omega) (by omega) (by rw [HWD.out]; exact HW5.out) HW6.out hown hgr hor)
      have hf7 := HFO.out w7 hgr
      have HF7 := Lib.hid hf7
      refine hK.out _ _ HF7.out (fun _ => ?_)
      clear hK KK hown hgr hor hgg
      refine wpAnyH_ready (rs := [7]) (by kernel_rfl) (by simp) ?_
      refine AllReadyH.cons rfl (fun KK hK => ?_) AllReadyH.nil
      have e7 := HMS.out.1.cell
      have z7 := HMS.out.1.frozen
      go_simp
      refine hK.out _ _ ((World.cell?_setCell_other _ _ _ _ (fun e => by injection e with e _ _; omega)).trans HF7.out) (fun _ => ?_)
      clear hK KK
      refine wpAnyH_done (by kernel_rfl) ?_ _
      gi_wp2
      obtain ⟨-, q1, q2, q3, q4, q5, q6⟩ := HMS.out
      refine ⟨q1, q2, ⟨⟨_, q3, ?_, trivial⟩, ?_⟩, q6⟩
      · rw [List.length_append, HK.out, HTV.out]
        exact q4
      · rw [List.length_append, HK.out]
        exact q5
  case done =>
    rintro D ys W hD rfl ⟨⟨⟨v, hv, hrow, -⟩, hGb⟩, hO⟩ hK
    obtain ⟨Av, cv, rfl⟩ := own_sliceS hrow
    have hp2 := HP2.out
    have hdm : ∀ k, ow k ≠ none → w1.heap.size ≤ k ∧ k < w2.heap.size := fun k hk => hp2.1.dom k hk
    have h24 := HB24.out
    have hsw : w2.heap.size ≤ B1 := HW2B.out
    have hPW : P2 W w1.heap.size ow Q seed (keyT nilV t) GA SA GB SB AB := ⟨hp2.1.keep (Nat.le_trans h24.size hO.2.2.2.1) (fun k hk => (hO.2.2.2.2 k (by have := hdm k hk; have := h24.size; omega) (by have := hdm k hk; omega) (by have := hdm k hk; omega)).trans (h24.block k (hdm k hk).2)), hp2.2⟩
    have hlo : ∀ b, (Value.slice Av ys.length cv).ownBlock = some b → ow b = none := fun b hb => by
      cases hq : ow b with
      | none => rfl
      | some y =>
        have h1 := (hdm b (by rw [hq]; exact fun e => by cases e)).2
        have h2 := (hrow.lt b hb).1
        have := h24.size
        omega
    have hNL : ys.length = (allT t).length := by have q := congrArg List.length HXS.out; simpa using q
    have hvals : telV ys = (vsL telK (allT t)).map (fun s => Value.string ⟨s.toArray⟩) := by
      rw [← HXS.out]
      unfold telV vsL
      rw [List.map_map, List.map_map]
      rfl
    rw [hvals] at hrow
    have HFILL := Lib.hid (fill_any W nilV telK hPW HG.out.fit (by omega) hNL hrow hlo)
    have hoG : ow G = none := by
      cases hq : ow G with
      | none => rfl
      | some y => have h1 := (hdm G (by rw [hq]; exact fun e => by cases e)).1; omega
    have hoD : ow D = none := by
      cases hq : ow D with
      | none => rfl
      | some y => have h1 := (hdm D (by rw [hq]; exact fun e => by cases e)).2; have := h24.size; omega
    have hvc := hv.cell
    have HGB := Lib.hid hGb
    have HO := Lib.hid hO
    have HDM := Lib.hid hdm
    have HKD := Lib.hid hK
    have HXN := Lib.hid HXL.out
    obtain ⟨nx, hnx⟩ : ∃ n, ys.length = n := ⟨_, rfl⟩
    have HNX := Lib.hid hnx
    rw [hnx] at HFILL hvc
    clear hv hrow hGb hO hK hp2 hdm hPW hlo hNL hvals h24 hsw hnx
    go_wp2_with fail
    refine HFILL.out.mono ?_
    rintro e w9 ⟨rfl, o9, hp9, hu9⟩
    have hGW : G < W.heap.size := HGB.out.lt
    have hDW : D < W.heap.size := (Array.getElem?_eq_some_iff.1 HKD.out).1
    have hG9 : Boxed w9 G 3 (.int .i64 (ys.length : Nat)) := (hu9.block G hGW hoG).trans HGB.out
    have hK9 : w9.heap[D]? = some (.deferred (some [])) := (hu9.block D hDW hoD).trans HKD.out
    have HEND : Hid (P2 (w9.putObj D (.deferred none)) w1.heap.size o9 Q seed (keyT telK t) GA SA GB SB AB ∧ Boxed (w9.putObj D (.deferred none)) G 3 (.int .i64 t.n) ∧ w.grownBy (w9.putObj D (.deferred none)) (some G)) := by
      have hz9 := hu9.size
      have hs2 := HB24.out.size
      have hsW := HO.out.2.2.2.1
      have hwz := HBZ.out.size
      have hod9 : ∀ k, o9 k ≠ none → k ≠ D := fun k hk e => by
        subst e
        rw [hu9.same k hDW, hoD] at hk
        exact hk rfl
      refine ⟨⟨hp9.1.keep (by rw [World.putObj_size]; exact Nat.le_refl _) (fun k hk => World.putObj_heap_other (hod9 k hk)), hp9.2⟩, ?_, ?_⟩
      · have q : Boxed (w9.putObj D (.deferred none)) G 3 (.int .i64 (ys.length : Nat)) := (World.putObj_heap_other (by omega)).trans hG9
        rw [HXN.out] at q
        exact q
      · have hb4 := HB4.out
        refine ⟨hu9.os.trans (HO.out.1.trans hb4.os), hu9.tape.trans (HO.out.2.1.trans hb4.tape), hu9.output.trans (HO.out.2.2.1.trans hb4.output), by rw [World.putObj_size]; have := hb4.size; omega, fun k hk hne => ?_⟩
        have hkG : k ≠ G := fun e => hne (by rw [e])
        have hok : ow k = none := by
          cases hq : ow k with
          | none => rfl
          | some y => have h1 := (HDM.out k (by rw [hq]; exact fun e => by cases e)).1; omega
        have := hb4.size
        exact (World.putObj_heap_other (by omega)).trans ((hu9.block k (by omega) hok).trans ((HO.out.2.2.2.2 k (by omega) hkG (by omega)).trans (hb4.block k hk)))
    have HBB : Hid (w.heap.size ≤ w1.heap.size) := HBZ.out.size
    clear hp9 hu9 hG9
    go_wp2
    have eg : ∀ (args : Array Value) (w : World), (callFunc 53 args).run Try.prog w = .ok (.enter 53 args) w := enters_of Try.func53 (by kernel_rfl) rfl
    refine ⟨by simp, .inl ⟨_, _, rfl, run_takeDeferred hK9, ?_⟩⟩
    refine ⟨by simp, .inr ⟨fun _ => by omega, .func 53, #[], 53, #[], rfl, by simp [invoke, go_sem, eg], fun _ _ => trivial, ?_⟩⟩
    refine (mapdef_ret _ _).mono ?_
    rintro e u' w' ⟨rfl, rfl, rfl⟩
    simp only [LeavesInM, LeavesIn, settle]
    refine ⟨.pointer (some ⟨Q, 0, none⟩), by simp [results, Try.results22, go_sem], ?_⟩
    obtain ⟨z1, z2, z3⟩ := HEND.out
    exact ⟨_, Q, o9, GA, SA, GB, SB, AB, rfl, HBB.out, z1, z2, z3⟩
  case stop =>
    rintro D c pre W _ _ h _
    exact h.elim
end

end Go.Proofs.Ytcjoakbaldeaoaa
