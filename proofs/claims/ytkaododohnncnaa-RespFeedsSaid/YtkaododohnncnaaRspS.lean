/-
  The walk of the document's own Split: all requests, how many bytes, the fault. Conditions: the bytes lie in memory as a slice that reads as them, at most 2^40 of them.
-/
import Derived.Test.YtkaododohnncnaaRspF
namespace Go.Proofs.Ytkaododohnncnaa
open Go.RowKit
set_option maxHeartbeats 4000000 in
theorem rsplit_any (b o cap : Nat) (l : List UInt8) (w : World) (hl : l.length ≤ cap) (hcap : cap ≤ 9223372036854775807) (hbig : l.length ≤ 1099511627776) (hb : b < w.heap.size) (hc : BytesAt w b o l) :
    Calls Try.prog 13 #[.slice (some ⟨b, o, none⟩) l.length cap] w (SplitPost w (splitS l)) := by
  have HC := Lib.hid hc
  clear hc
  obtain ⟨i0, hi, hy0, hy1, hy2⟩ := info_parts info_sl
  have HR : Hid (splitGo (l.length + 1) l 0 [] = splitS l) := rfl
  obtain ⟨R, hR⟩ : ∃ R, splitS l = R := ⟨_, rfl⟩
  rw [hR] at HR ⊢
  clear hR
  go_enter Try.func13, Try.ntmps13
  go_wp2
  go_loopw [5, 6, 7] (fun v i _ wr => ∃ (n f : Nat) (acc : List (List (List UInt8))), i = .int .i64 n ∧ n ≤ l.length ∧ l.length < f + n ∧ acc.length ≤ n ∧ OwnsReqs wr w.heap.size v acc ∧ Below w.heap.size w wr ∧ Hid (splitGo f l n acc = R)) (fun _ i _ _ => l.length - (intOf i).toNat)
  case atStart => exact ⟨0, l.length + 1, [], rfl, by omega, by omega, by simp, ⟨[], rfl, ⟨rfl, .inl ⟨rfl, rfl⟩⟩, fun i u r h => by cases h⟩, Below.refl _ _, HR.out⟩
  case round =>
    obtain ⟨n, f, acc, rfl, hn, hf, han, hown, hbw, HG⟩ := hrel
    obtain ⟨f, rfl⟩ : ∃ g, f = g + 1 := ⟨f - 1, by omega⟩
    clear HR
    have hzw := hbw.size
    have HOW := Lib.hid hown
    clear hown
    obtain ⟨vs, h1, h2, h3⟩ := HOW.out
    obtain ⟨A, cc, rfl⟩ := ownsRow_form h2
    have H3 := Lib.hid h3
    clear h3
    have hlen : (l.drop n).length = l.length - n := List.length_drop
    rcases Nat.lt_or_ge n l.length with hlt | hge
    · have hncap : n < cap := by omega
      have hfirst := rfirst_any b (o + n) (cap - n) (l.drop n) wr (by omega) (by omega) (by omega) (by omega) ((HC.out.below hbw hb).cut n)
      rw [hlen] at hfirst
      have HFI := Lib.hid hfirst
      clear hfirst hlen
      go_wp2_with fail
      refine HFI.out.mono ?_
      rintro e w2 ⟨hb2, he⟩
      have hz2 := hb2.size
      have hbw2 : Below w.heap.size w w2 := hbw.trans (hb2.mono hbw.size)
      cases hR1 : firstS (l.drop n) with
      | none =>
        rw [hR1] at he
        subst he
        have HE : Hid (R = (acc, n, [])) := by unfold Hid; rw [← HG.out]; exact splitGo_none f l n acc hR1
        clear HG hR1
        simp only [fndV]
        go_wp2
        go_region
        all_goals go_wp2
        all_goals go_ret3
        all_goals
          have hfin : Below w2.heap.size w2 (w2.alloc (.cells #[.int .i64 0, .int .i64 0, .slice none 0 0, .string ⟨#[]⟩] 51)).drew := ((Below.refl _ _).alloc (Nat.le_refl _) _).drew
          refine ⟨hbw2.trans (hfin.mono (by omega)), ?_⟩
          rw [HE.out]
          exact ⟨_, rfl, (HOW.out.below hb2).below hfin⟩
      | some x =>
        rcases x with e1 | ⟨ws, k⟩
        · rw [hR1] at he
          subst he
          have HE : Hid (R = (acc, n, e1)) := by unfold Hid; rw [← HG.out]; exact splitGo_inl f l n acc e1 hR1
          clear HG hR1
          simp only [fndV]
          go_wp2
          go_region
          all_goals go_wp2
          all_goals go_ret3
          all_goals
            have hfin : Below w2.heap.size w2 (w2.alloc (.cells #[.int .i64 2, .int .i64 0, .slice none 0 0, .string ⟨e1.toArray⟩] 51)).drew := ((Below.refl _ _).alloc (Nat.le_refl _) _).drew
            refine ⟨hbw2.trans (hfin.mono (by omega)), ?_⟩
            rw [HE.out]
            exact ⟨_, rfl, (HOW.out.below hb2).below hfin⟩
        · rw [hR1] at he
          obtain ⟨v, rfl, hu⟩ := he
          obtain ⟨k1, k2⟩ := firstS_inr hR1
          rw [List.length_drop] at k2
          have HE : Hid (splitGo f l (n + k) (if ws = [] then acc else acc ++ [ws]) = R) := by unfold Hid; rw [← HG.out]; exact (splitGo_inr f l n acc ws k hR1).symm
          clear HG hR1
          obtain ⟨Au, cu, rfl⟩ := ownsRow_form hu
          have hu2 := ownsRow_base hu hzw
          simp only [fndV]
          by_cases hws : ws = []
          · subst hws
            rw [if_pos rfl] at HE
            have hal : Below w2.heap.size w2 (w2.alloc (.cells #[.int .i64 1, .int .i64 k, .slice Au 0 cu, .string ⟨#[]⟩] 51)) := (Below.refl _ _).alloc (Nat.le_refl _) _
            clear hu hu2
            go_wp2
            go_roundw
            case rel => exact ⟨n + k, f, acc, by go_num, by omega, by omega, by omega, (HOW.out.below hb2).below hal, hbw2.trans (hal.mono (by omega)), HE.out⟩
            case measure => simp only [intOf]; omega
          · rw [if_neg hws] at HE
            have hwl : 0 < ws.length := List.length_pos_iff.2 hws
            have hv2 := ownsRow_below h2 hb2
            clear hu hws
            go_wp2_with (at_builtin; refine wpList_append_own _ rfl _ _ 30 rfl w.heap.size 39 i0 (.slice none 0 0) 1 24 Try.underlying30 hi hy0 hy1 hy2 rfl (by decide) _ _ _ rfl ((hv2.alloc _).alloc _) ⟨w2.heap.size + 1, 0, none⟩ 1 1 [.slice Au ws.length cu] rfl rfl ?c1 ?c2 ?c3 ?c4 ?c5 ?_)
            case c1 =>
              intro j u hj
              cases j with
              | zero => simp at hj; subst hj; simp [Addr.add, World.cell?_alloc_at]
              | succ j => simp at hj
            case c2 => intro u hu; simp at hu; subst hu; rfl
            case c3 => unfold maxLen; omega
            case c4 => omega
            case c5 => simp; omega
            intro v' w3 hown3 hgr3 _
            have hal : Below w2.heap.size w2 ((w2.alloc (.cells #[.int .i64 1, .int .i64 k, .slice Au ws.length cu, .string ⟨#[]⟩] 51)).alloc (.cells #[.slice Au ws.length cu] 39)) := ((Below.refl _ _).alloc (Nat.le_refl _) _).alloc (by simp) _
            have hb3 : Below w.heap.size w w3 := (hbw2.trans (hal.mono (by omega))).grown hgr3 (by simp; omega) (fun g hg => (h2.lt g hg).1)
            have hreq : OwnsReqs w3 w.heap.size v' (acc ++ [ws]) :=
              OwnsReqs.more h1 (fun i u r hu hr => ownsRow_below (ownsRow_below (H3.out i u r hu hr) hb2) hal) (ownsRow_below hv2 hal) (ownsRow_below hu2 hal) hown3 hgr3
            have hq3 : w3.cell? ⟨w2.heap.size, 1, none⟩ = some (.int .i64 k) := by
              refine hgr3.cell ?_ ?_
              · rw [World.cell?_alloc_lt _ _ _ (by simp)]
                simp
              · intro e
                have := (h2.lt _ e.symm).2
                simp at this
                omega
            have HRQ := Lib.hid hreq
            clear hreq hgr3 hown3
            go_wp2
            go_roundw
            case rel => exact ⟨n + k, f, acc ++ [ws], by go_num, by omega, by omega, by rw [List.length_append]; simp only [List.length_singleton]; omega, HRQ.out, hb3, HE.out⟩
            case measure => simp only [intOf]; omega
    · obtain rfl : n = l.length := by omega
      have HE : Hid (R = (acc, l.length, [])) := by unfold Hid; rw [← HG.out]; exact splitGo_none f l _ acc (by rw [List.drop_length]; rfl)
      clear HG hlen
      by_cases hcl : cap = l.length
      all_goals
        go_wp2_with fail
        try rw [Nat.sub_self]
        refine (rfirst_empty _ _ _).mono ?_
        rintro e w2 ⟨hb2, rfl⟩
        have hz2 := hb2.size
        have hbw2 : Below w.heap.size w w2 := hbw.trans (hb2.mono hbw.size)
        simp only [fndV]
        go_wp2
        go_region
        all_goals go_wp2
        all_goals go_ret3
        all_goals
          have hfin : Below w2.heap.size w2 (w2.alloc (.cells #[.int .i64 0, .int .i64 0, .slice none 0 0, .string ⟨#[]⟩] 51)).drew := ((Below.refl _ _).alloc (Nat.le_refl _) _).drew
          refine ⟨hbw2.trans (hfin.mono (by omega)), ?_⟩
          rw [HE.out]
          exact ⟨_, rfl, (HOW.out.below hb2).below hfin⟩

end Go.Proofs.Ytkaododohnncnaa
