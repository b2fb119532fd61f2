/-
  Package table (values: string): the walk of Put. Conditions: the table lies in memory as it reads, and keeps what tables keep; keys of at most 1000 bytes.
-/
import Derived.Test.YtcjoakbaldeaoaaGTmS
import Derived.Test.YtcjoakbaldeaoaaTbK
import Derived.Test.YtcjoakbaldeaoaaTbC
namespace Go.Proofs.Ytcjoakbaldeaoaa
open Go.RowKit

set_option maxRecDepth 100000 in
set_option maxHeartbeats 8000000 in
theorem putS_any {base Q seed m : Nat} {ow : Own} {t : Tb (List UInt8)} {gA gB : Nat} {sA sB : Nat → Value} (hs : seed < 18446744073709551616) (k : List UInt8) (K : ByteArray) (hK : K.data.toList = k) (hK63 : K.size ≤ 1000) (v : (List UInt8)) (w : World) (h : PT KS w base ow Q 86 seed t gA sA gB sB) (hg : Good (hashT seed) m t) (hm : m ≤ 50000) (hks : KeysT (fun k => k.length ≤ 1000) t) :
    Calls Try.prog 31 #[.pointer (some ⟨Q, 0, none⟩), .string K, (Value.string ⟨v.toArray⟩)] w fun e w' => e = .returned (.bool (lookT (hashT seed) (stepT (hashT seed) t) k).isSome) ∧ ∃ ow' gA' sA' gB' sB', PT KS w' base ow' Q 86 seed (putS (hashT seed) (stepT (hashT seed) t) k v) gA' sA' gB' sB' ∧ Turns ow ow' w w' := by
  have c0 : w.cell? ⟨Q, 0, none⟩ = some (.pointer (some ⟨Q, 0, none⟩)) := h.hd.cell (by omega)
  have HM := Lib.hid (isMadeS_any Q w c0)
  have HMO := Lib.hid (moveS_any hs w h hg (by omega) (fun x hx => by have := hks.1.flat x hx; omega))
  have HG2 := Lib.hid (good_step hg)
  obtain ⟨t2, ht2⟩ : ∃ t2, stepT (hashT seed) t = t2 := ⟨_, rfl⟩
  rw [ht2] at HMO HG2 ⊢
  have HKK := Lib.hid hK
  clear h hg hks c0 ht2
  go_enter Try.func31, Try.ntmps31
  go_wp2_with fail
  refine HM.out.mono ?_
  rintro e w1 ⟨rfl, rfl⟩
  go_wp2_with fail
  refine HMO.out.mono ?_
  rintro e w2 ⟨rfl, o2, gA2, sA2, gB2, sB2, hp2, hu2⟩
  have HP2 := Lib.hid hp2
  have HU2 := Lib.hid hu2
  have HWH := Lib.hid (whereS_any hs k K HKK.out (by omega) w2 hp2 HG2.out (by omega))
  rcases found_or_fresh hp2 HG2.out.kept k with ⟨g, r, l, mk, RX, sX, RY, gY, sY, j, x, hf⟩ | ⟨g, r, l, mk, RX, sX, RY, gY, sY, hf⟩
  · have HF := Lib.hid hf
    rw [hf.wh] at HWH
    dsimp only at HWH
    clear hf hp2 hu2
    go_wp2_with fail
    refine HWH.out.mono ?_
    rintro e w3 ⟨rfl, hb3⟩
    have hon := HF.out.side.on.below hb3
    have HON := Lib.hid hon
    have HB3 := Lib.hid hb3
    obtain ⟨b, cc, hsX, hle, hcc, hbl, _, hv⟩ := TbOn.itemS hon HF.out.side.at_ HF.out.it
    have hlt := (List.getElem?_eq_some_iff.1 HF.out.side.at_).1
    have hrow := (hon.a.row (by omega)).cell hlt
    have hjl := (List.getElem?_eq_some_iff.1 HF.out.it).1
    have hfz : w3.frozen? ⟨b, j * 2 + 1, none⟩ = false := by
      have hb := hon.a.bkt r l HF.out.side.at_
      rw [hsX] at hb
      exact World.ownsRow.frozenAt hb _
    have HSX := Lib.hid hsX
    rw [hsX] at hrow
    replace hv : w3.cell? ⟨b, j * 2 + 1, none⟩ = some (Value.string ⟨x.2.toArray⟩) := hv
    obtain ⟨ln, hln⟩ : ∃ n, l.length = n := ⟨_, rfl⟩
    rw [hln] at hrow hle hjl
    clear hon hb3 hsX hlt hln
    go_wp2
    go_ret
    obtain ⟨o4, h1, h2⟩ := HON.out.storeV HF.out.side.at_ HF.out.it HSX.out v
    obtain ⟨gA4, sA4, gB4, sB4, h3⟩ := HF.out.side.back _ _ _ _ h1
    refine ⟨by rw [HF.out.look]; rfl, o4, gA4, sA4, gB4, sB4, by rw [HF.out.put]; exact h3, HU2.out.trans ((Turns.of_below o2 HB3.out).trans h2)⟩
  · have HF := Lib.hid hf
    rw [hf.wh] at HWH
    dsimp only at HWH
    clear hf hp2 hu2
    go_wp2_with fail
    refine HWH.out.mono ?_
    rintro e w3 ⟨rfl, hb3⟩
    have HB3 := Lib.hid hb3
    have hon := HF.out.side.on.below hb3
    have HON := Lib.hid hon
    have hrl := (List.getElem?_eq_some_iff.1 HF.out.side.at_).1
    have hrow := (hon.a.row (by omega)).cell hrl
    have hga := (hon.a.row (by omega)).lt
    have hown := hon.a.bkt r l HF.out.side.at_
    obtain ⟨Ar, cr, hAr⟩ : ∃ A c, sX r = .slice A l.length c := by
      rcases hown.2 with ⟨h1, h2⟩ | ⟨g, cap, cur, hv, _⟩
      · exact ⟨none, 0, by rw [h1, h2]⟩
      · exact ⟨_, _, hv⟩
    have HNBB : Hid (∀ k, (Value.slice Ar l.length cr).ownBlock = some k → k ≠ g) := fun k hk => hon.bA HF.out.side.at_ (by rw [hAr]; exact hk)
    have HAR := Lib.hid hAr
    have hlm : l.length ≤ 400000 := by have := HF.out.side.len _ _ HG2.out; omega
    obtain ⟨n, hn⟩ : ∃ n, l.length = n := ⟨_, rfl⟩
    have HN := Lib.hid hn
    rw [hAr] at hrow hown
    rw [hn] at hrow hown hlm HNBB
    obtain ⟨ip, hip, hyp⟩ := Option.map_eq_some_iff.1 info_pairS
    simp only [Prod.mk.injEq] at hyp
    have HP := Lib.hid hyp
    have HOW := Lib.hid hown
    have HCL := Lib.hid (fun W => clone_any K W (by omega))
    have HROW := Lib.hid hrow
    have hbase : base ≤ w3.heap.size := by have := HP2.out.base_le; have := hb3.size; omega
    have HSTEP := Lib.hid (fun (W : World) (hW : Below w3.heap.size w3 W) => HON.out.below hW)
    clear hon hrl hown hAr hn hyp hb3
    go_wp2_with fail
    go_region_law (first
      | (go_simp; go_at_call 59; refine (HCL.out _).mono ?_; rintro en w4 ⟨rfl, hb4⟩; have hc4 : Below w3.heap.size w3 w4 := (by first | exact hb4 | exact (Below.refl w3.heap.size w3).drew.trans hb4); have HB4 := Lib.hid hc4; have hz4 := hc4.size; have q3 := (hc4.cell (p := ⟨g, r, none⟩) hga).trans HROW.out; have qa : (w4.alloc (.cells #[.string K, (Value.string ⟨v.toArray⟩)] 90)).cell? ⟨g, r, none⟩ = some (.slice Ar n cr) := (((Below.refl w4.heap.size w4).alloc (Nat.le_refl _) _).cell (p := ⟨g, r, none⟩) (by show g < w4.heap.size; omega)).trans q3; have hz5 : (w4.alloc (.cells #[.string K, (Value.string ⟨v.toArray⟩)] 90)).heap.size = w4.heap.size + 1 := (by simp); have E1 := Lib.hid (show (w4.alloc (.cells #[.string K, (Value.string ⟨v.toArray⟩)] 90)).ownsRow base 90 2 (.slice Ar n cr) n (encIt KS.enc l) from (by have q := (HSTEP.out w4 hc4).a.bkt r l HF.out.side.at_; rw [HAR.out, HN.out] at q; exact q.alloc _)); have E2 := Lib.hid (show ∀ j u, [Value.string K, (Value.string ⟨v.toArray⟩)][j]? = some u → (w4.alloc (.cells #[.string K, (Value.string ⟨v.toArray⟩)] 90)).cell? ((⟨w4.heap.size, 0, none⟩ : Addr).add j) = some u from World.news_of_block (cs := #[.string K, (Value.string ⟨v.toArray⟩)]) (t := 90) (fr := (0, 0)) (heap_alloc_new w4 _)); have E4 := Lib.hid hz5; have E7 := Lib.hid (((HSTEP.out w4 hc4).below ((Below.refl w4.heap.size w4).alloc (Nat.le_refl _) (.cells #[.string K, (Value.string ⟨v.toArray⟩)] 90))).a.row (by have := (List.getElem?_eq_some_iff.1 HF.out.side.at_).1; omega)); clear hb4 hc4)
      | (refine step_append_lies _ (by rfl) _ _ _ (by rfl) base 90 ip _ 2 32 Try.underlying101 hip HP.out.1 HP.out.2.1 HP.out.2.2 rfl (by omega) (.slice Ar n cr) n (encIt KS.enc l) (by rfl) (by exact E1.out) ⟨w4.heap.size, 0, none⟩ 1 1 [.string K, (Value.string ⟨v.toArray⟩)] (by rfl) (by rfl) (by exact E2.out) (by simp [Value.oneCell']) (by omega) (by unfold maxLen; omega) (by omega) (by rw [E4.out]; omega) (w4.heap.size + 1) (by exact E4.out) ?_; intro gg cg w5 hown5 hgrow hor hgg; have hbG := hgrow.block g (by rw [E4.out]; omega) (fun e => HNBB.out g e.symm rfl); have p3 := (World.cell?_of_block (a := ⟨g, r, none⟩) hbG).trans qa; have pf := (World.frozen?_of_block (a := ⟨g, r, none⟩) hbG).trans (E7.out.frozen r); have HGR := Lib.hid hgrow; have HOX := Lib.hid hown5; have HOR := Lib.hid hor; clear hgrow hbG hown5 hgg hor))
    all_goals
      have HNEW : ∃ o6 gA6 sA6 gB6 sB6, PT KS (w5.setCell ⟨g, r, none⟩ (.slice (some ⟨gg, 0, none⟩) (n + 1) cg)) base o6 Q 86 seed (mk (l ++ [(k, v)])) gA6 sA6 gB6 sB6 ∧ Turns ow o6 w1 (w5.setCell ⟨g, r, none⟩ (.slice (some ⟨gg, 0, none⟩) (n + 1) cg)) := by
        have hb5 := (Below.refl w4.heap.size w4).alloc (Nat.le_refl _) (.cells #[.string K, (Value.string ⟨v.toArray⟩)] 90)
        obtain ⟨o6, h1, h2⟩ := TbOn.store ((HSTEP.out w4 HB4.out).below hb5) (l' := l ++ [(k, v)]) (v' := .slice (some ⟨gg, 0, none⟩) (n + 1) cg) HF.out.side.at_ (by rw [HAR.out, HN.out]; exact HGR.out) (by
          rw [List.length_append, HN.out, encIt_app]
          have e : encIt KS.enc [(k, v)] = [.string K, (Value.string ⟨v.toArray⟩)] := by
            have e2 : (⟨k.toArray⟩ : ByteArray) = K := by rw [← HKK.out]
            rw [← e2]; rfl
          rw [e]
          exact HOX.out) (by
          rcases HOR.out with q | q
          · exact Or.inr (Or.inl (by rw [HAR.out, HN.out]; exact q.symm))
          · exact Or.inr (Or.inr ⟨gg, rfl, by rw [E4.out]; omega⟩))
        obtain ⟨gA6, sA6, gB6, sB6, h3⟩ := HF.out.side.back _ _ _ _ h1
        exact ⟨o6, gA6, sA6, gB6, sB6, h3, HU2.out.trans ((Turns.of_below o2 HB3.out).trans ((Turns.of_below o2 HB4.out).trans ((Turns.of_below o2 hb5).trans h2)))⟩
      obtain ⟨w6, hw6⟩ : ∃ w6, w5.setCell ⟨g, r, none⟩ (.slice (some ⟨gg, 0, none⟩) (n + 1) cg) = w6 := ⟨_, rfl⟩
      rw [hw6] at HNEW ⊢
      obtain ⟨o6, gA6, sA6, gB6, sB6, h6, hu6⟩ := HNEW
      have HU6 := Lib.hid hu6
      have H6 := Lib.hid h6
      have e2 : w6.cell? ⟨Q, 2, none⟩ = some (.int .i64 (mk (l ++ [(k, v)])).n) := h6.hd.cell (by omega)
      have ef := h6.hd.frozen 2
      rw [HF.out.side.n] at e2
      have hnm := HG2.out.n
      obtain ⟨q1, hq1⟩ : ∃ q, t2.n + 1 = q := ⟨_, rfl⟩
      have hwr : IntKind.i64.wrap ((t2.n : Int) + 1) = (q1 : Int) := by rw [IntWalk.i64_in _ (by omega)]; omega
      have H7 := Lib.hid (h6.setN q1)
      have HGW := Lib.hid (fun W (hP : PT KS W base o6 Q 86 seed { mk (l ++ [(k, v)]) with n := q1 } gA6 sA6 gB6 sB6) => growS_any W hP (by show 0 < (mk (l ++ [(k, v)])).A.length; rw [HF.out.side.a]; exact HG2.out.kept.pos) (by show (mk (l ++ [(k, v)])).A.length ≤ _; rw [HF.out.side.a]; have := HG2.out.a; omega) (by show q1 ≤ _; omega))
      have HPUT : Hid (putS (hashT seed) t2 k v = growT { mk (l ++ [(k, v)]) with n := q1 }) := by unfold Hid; rw [HF.out.put, hq1]
      clear hw6 h6 hu6 p3 pf hq1 hnm
      go_wp2_with fail
      refine (HGW.out _ H7.out.1).mono ?_
      rintro e w8 ⟨rfl, o8, gB8, sB8, hp8, hu8⟩
      have HP8 : Hid (PT KS w8 base o8 Q 86 seed (putS (hashT seed) t2 k v) gA6 sA6 gB8 sB8) := by unfold Hid; rw [HPUT.out]; exact hp8
      have HU8 := Lib.hid (HU6.out.trans (H7.out.2.trans hu8))
      clear hp8 hu8 e2 ef hwr
      go_wp2
      go_ret
      exact ⟨by rw [HF.out.look]; rfl, o8, gA6, sA6, gB8, sB8, HP8.out, HU8.out⟩

end Go.Proofs.Ytcjoakbaldeaoaa
