/-
  The walk of the statement RespFeeds: it answers true. Conditions: the pieces lie in memory as slices that read as their bytes.
-/
import Derived.Test.YtkaododohnncnaaRspD
import Derived.Deep.QuietTactic
import Derived.BigQuiet
namespace Go.Proofs.Ytkaododohnncnaa
open Go.RowKit

theorem RdR.mod {w w' : World} {G S : Nat} {tb : Option Nat} {bv : Value} {kept : List UInt8} {done : Bool} (h : RdR w S bv kept done) (hm : Mod w G tb w') (hS : S ≠ G) (hT : tb ≠ some S) (hb : ∀ k, bv.ownBlock = some k → k ≠ G ∧ tb ≠ some k) : RdR w' S bv kept done :=
  have hk := hm.other S h.lt hS (fun e => hT e.symm)
  { lt := Nat.lt_of_lt_of_le h.lt hm.size
    c0 := (World.cell?_of_block (a := ⟨S, 0, none⟩) hk).trans h.c0
    c1 := (World.cell?_of_block (a := ⟨S, 1, none⟩) hk).trans h.c1
    f0 := (World.frozen?_of_block (a := ⟨S, 0, none⟩) hk).trans h.f0
    f1 := (World.frozen?_of_block (a := ⟨S, 1, none⟩) hk).trans h.f1
    src := h.src.keep fun k hk hl => hm.other k hl (hb k hk).1 (fun e => (hb k hk).2 e.symm)
    ne := h.ne }
theorem RdR.on {w w' : World} {S : Nat} {bv : Value} {kept : List UInt8} {done : Bool} (h : RdR w S bv kept done) (hb : Below w.heap.size w w') : RdR w' S bv kept done :=
  { lt := Nat.lt_of_lt_of_le h.lt hb.size
    c0 := (hb.cell (p := ⟨S, 0, none⟩) h.lt).trans h.c0
    c1 := (hb.cell (p := ⟨S, 1, none⟩) h.lt).trans h.c1
    f0 := (hb.frozen (p := ⟨S, 0, none⟩) h.lt).trans h.f0
    f1 := (hb.frozen (p := ⟨S, 1, none⟩) h.lt).trans h.f1
    src := h.src.below hb
    ne := h.ne }
theorem RdS.mod {w w' : World} {G S : Nat} {kv : Value} {kept : List UInt8} {done : Bool} (h : RdS w G kv kept done) (hm : Mod w S none w') (hS : G ≠ S) (hk : kv.ownBlock ≠ some S) : RdS w' G kv kept done :=
  have hg := hm.other G h.lt hS (by simp)
  { lt := Nat.lt_of_lt_of_le h.lt hm.size
    c0 := (World.cell?_of_block (a := ⟨G, 0, none⟩) hg).trans h.c0
    c1 := (World.cell?_of_block (a := ⟨G, 1, none⟩) hg).trans h.c1
    c2 := (World.cell?_of_block (a := ⟨G, 2, none⟩) hg).trans h.c2
    f1 := (World.frozen?_of_block (a := ⟨G, 1, none⟩) hg).trans h.f1
    f2 := (World.frozen?_of_block (a := ⟨G, 2, none⟩) hg).trans h.f2
    own := by
      refine ⟨h.own.1, ?_⟩
      rcases h.own.2 with h2 | ⟨g, cap, cur, hv, hg, hh, r⟩
      · exact .inl h2
      · refine .inr ⟨g, cap, cur, hv, hg, ?_, r⟩
        have hlt : g < w.heap.size := (Array.getElem?_eq_some_iff.1 hh).1
        rw [hm.other g hlt (fun e => hk (by rw [hv, ← e]; rfl)) (by simp)]
        exact hh }
theorem OwnsReqs.modn {w w' : World} {base S : Nat} {v : Value} {L : List (List (List UInt8))} (h : OwnsReqs w base v L) (hm : Mod w S none w') (hS : S < base) : OwnsReqs w' base v L := by
  obtain ⟨vs, h1, h2, h3⟩ := h
  exact ⟨vs, h1, own_mod h2 hm hS (Classical.em _), fun i u r hu hr => own_mod (h3 i u r hu hr) hm hS (Classical.em _)⟩

theorem rdr_new (w : World) : RdR (w.alloc (.cells #[.slice none 0 0, .bool false] 29)) w.heap.size (.slice none 0 0) [] false :=
  have h := World.alloc_heap_new w (.cells #[.slice none 0 0, .bool false] 29)
  { lt := by simp
    c0 := (cell_in h).trans rfl
    c1 := (cell_in h).trans rfl
    f0 := mark_in h
    f1 := mark_in h
    src := SrcAt.nil _
    ne := by simp [Value.ownBlock] }

/-- Two readers that hold the same, apart from each other. -/
structure Both (w : World) (G S : Nat) (kv bv : Value) (kept : List UInt8) (done : Bool) : Prop where
  p : RdS w G kv kept done
  r : RdR w S bv kept done
  gs : G < S
  ks : kv.ownBlock ≠ some S
  bk : ∀ k, bv.ownBlock = some k → G < k ∧ kv.ownBlock ≠ some k
theorem Both.on {w w' : World} {G S : Nat} {kv bv : Value} {kept : List UInt8} {done : Bool} (h : Both w G S kv bv kept done) (hb : Below w.heap.size w w') : Both w' G S kv bv kept done :=
  ⟨h.p.on hb, h.r.on hb, h.gs, h.ks, h.bk⟩

set_option maxRecDepth 100000 in
set_option maxHeartbeats 8000000 in
theorem respFeeds_walk (LA : Option Addr) (b o n cap : Nat) (X : Nat → Value) (xs : Nat → List UInt8) (w : World) (hLA : 0 < n → LA = some ⟨b, o, none⟩)
    (hX : ∀ i, i < n → w.cell? ⟨b, o + i, none⟩ = some (X i) ∧ SrcAt w (X i) (xs i) ∧ (xs i).length ≤ 140737488351232) :
    Calls Try.prog 3 #[.slice LA n cap] w fun e w' => e = .returned (.bool true) ∧ Below w.heap.size w w' := by
  have HX := Lib.hid hX
  have HLA := Lib.hid hLA
  have HAW := Lib.hid (awake_any w)
  clear hX hLA
  go_enter Try.func3, Try.ntmps3
  go_wp2_with fail
  refine HAW.out.mono ?_
  rintro e w1 ⟨rfl, hb1⟩
  have HB1 := Lib.hid hb1
  clear hb1 HAW
  go_wp2_with fail
  refine (pnew_any w1).mono ?_
  rintro e w2 ⟨rfl, hw2⟩
  have R2 := rds_new w1
  rw [← hw2] at R2
  have hb2 : Below w1.heap.size w1 w2 := by rw [hw2]; exact (Below.refl _ _).alloc (Nat.le_refl _) _
  have hz2 : w2.heap.size = w1.heap.size + 1 := by rw [hw2]; simp
  obtain ⟨w3, hw3⟩ : ∃ w3, w2.alloc (.cells #[.slice none 0 0, .bool false] 29) = w3 := ⟨_, rfl⟩
  have R3 := rdr_new w2
  rw [hw3] at R3
  have hb3 : Below w2.heap.size w2 w3 := by rw [← hw3]; exact (Below.refl _ _).alloc (Nat.le_refl _) _
  have HBO : Hid (Both w3 w1.heap.size w2.heap.size (.slice none 0 0) (.slice none 0 0) [] false) := ⟨R2.on hb3, R3, by omega, by simp [Value.ownBlock], fun k hk => by cases hk⟩
  have HB3 : Hid (Below w.heap.size w w3) := (HB1.out.trans (hb2.mono HB1.out.size)).trans (hb3.mono (by have := HB1.out.size; omega))
  have HGw := HB1.out.size
  have HZ2 := Lib.hid hz2
  obtain ⟨G, hG⟩ : ∃ G, w1.heap.size = G := ⟨_, rfl⟩
  obtain ⟨S, hS⟩ : ∃ S, w2.heap.size = S := ⟨_, rfl⟩
  have HG := Lib.hid hG
  have HS := Lib.hid hS
  rw [hG] at HBO HGw ⊢
  rw [hS] at HBO
  clear hw2 R2 R3 hb2 hb3 hz2 hG
  go_wp2
  try rw [hw3]
  try rw [hS]
  clear hw3 hS
  go_loopw [5, 6, 7, 8, 9, 10, 11, 12] (fun av iv _ _ _ _ _ _ wr => ∃ (i all : Nat) (kv bv : Value) (kept : List UInt8) (done : Bool), av = .int .i64 all ∧ iv = .int .i64 i ∧ i ≤ 200 ∧ all ≤ 300000 ∧ kept.length ≤ all ∧ (done = true → kept = []) ∧ Both wr G S kv bv kept done ∧ Below w.heap.size w wr) (fun _ iv _ _ _ _ _ _ _ => 200 - (intOf iv).toNat)
  case atStart => exact ⟨0, 0, _, _, [], false, rfl, rfl, by omega, by omega, Nat.le_refl _, fun _ => rfl, HBO.out, HB3.out⟩
  case round =>
    obtain ⟨i, all, kv, bv, kept, done, rfl, rfl, hi, hall, hka, hdk, hbo, hbw⟩ := hrel
    have HBW := Lib.hid hbw
    have HBO2 := Lib.hid hbo
    clear hbw
    rcases Nat.lt_or_ge i n with h1 | h1
    · obtain rfl : LA = some ⟨b, o, none⟩ := HLA.out (by omega)
      rcases Nat.lt_or_ge i 200 with h2 | h2
      · obtain ⟨hcell, hsrc, hlen⟩ := HX.out i h1
        have hbl : b < w.heap.size := World.block_lt_of_cell? w _ hcell
        have hcell2 := (HBW.out.cell (p := ⟨b, o + i, none⟩) hbl).trans hcell
        have hsrc2 := hsrc.below HBW.out
        obtain ⟨x, hx⟩ : ∃ x, xs i = x := ⟨_, rfl⟩
        obtain ⟨Xi, hXi⟩ : ∃ x, X i = x := ⟨_, rfl⟩
        rw [hXi] at hcell2 hsrc2
        rw [hx] at hsrc2 hlen
        obtain ⟨Ax, cx, rfl⟩ := hsrc2.form
        have HSRC := Lib.hid hsrc2
        rw [hXi] at hcell hsrc
        rw [hx] at hsrc
        have HSW := Lib.hid hsrc
        have HCW := Lib.hid hcell
        clear hcell hsrc hx hXi hsrc2
        rcases Nat.lt_or_ge 300000 (all + x.length) with h3 | h3
        · clear hbo
          go_wp2
          go_ret
          exact ⟨rfl, HBW.out⟩
        · cases done with
          | false =>
            have hc0 := hbo.r.c0
            clear hbo
            have HP := Lib.hid (pfeed_src G kv _ kept x wr HBO2.out.p HSRC.out (by omega))
            go_wp2_with fail
            refine HP.out.mono ?_
            rintro e w4 ⟨hm4, ⟨vl, rfl, hvl⟩, kv', hr4, hk4⟩
            have hSG := HBO2.out.gs
            have hSw := HBO2.out.r.lt
            have hz4 := hm4.size
            have hb4 : Below w.heap.size w w4 := HBW.out.trans (hm4.low HGw (fun k hk => by have := (own_lt HBO2.out.p.own hk).1; omega))
            have hcell4 := (hb4.cell (p := ⟨b, o + i, none⟩) hbl).trans HCW.out
            have hro4 := HBO2.out.r.mod hm4 (by omega) HBO2.out.ks (fun k hk => ⟨by have := (HBO2.out.bk k hk).1; omega, (HBO2.out.bk k hk).2⟩)
            have HR := Lib.hid (rfeed_src S bv _ kept x w4 hro4 (HSW.out.below hb4) (by omega))
            have HVL := Lib.hid hvl
            have HR4 := Lib.hid hr4
            have HB4 := Lib.hid hb4
            have hks : kv'.ownBlock ≠ some S := fun e => by
              rcases hk4 S e with h | h
              · exact HBO2.out.ks h
              · omega
            have hrows := splitS_rows (kept ++ x)
            have hrl : (restS (kept ++ x)).length ≤ all + x.length := by
              unfold restS
              split
              · rw [List.length_drop, List.length_append]; omega
              · simp
            have hrd : decide ((splitS (kept ++ x)).2.2 ≠ []) = true → restS (kept ++ x) = [] := fun h => by
              unfold restS
              rw [if_neg (by simpa using h)]
            have hyl : (kept ++ x).length ≤ 600000 := by rw [List.length_append]; omega
            obtain ⟨y, hy⟩ : ∃ y, kept ++ x = y := ⟨_, rfl⟩
            unfold RFeedPost at HR
            rw [hy] at HR HVL HR4 hrows hrl hrd hyl ⊢
            obtain ⟨rs, hrs⟩ : ∃ rs, restS y = rs := ⟨_, rfl⟩
            rw [hrs] at HR HR4 hrl hrd
            obtain ⟨R, hR⟩ : ∃ S, splitS y = S := ⟨_, rfl⟩
            obtain ⟨acc, N, F⟩ := R
            rw [hR] at HR HVL HR4 hrows hrd ⊢
            dsimp only at HR HVL HR4 hrows hrd ⊢
            have HRD := Lib.hid hrd
            have HROW := Lib.hid hrows
            have HKS := Lib.hid hks
            clear hm4 hvl hr4 hk4 hro4 hb4 hrs hR hy hrd hrows hks HP hc0
            go_wp2_with fail
            refine HR.out.mono ?_
            rintro e w5 ⟨hm5, ⟨vr, rfl, hvr⟩, bv', hs5, hkb⟩
            have hz5 := hm5.size
            have hbo5 : Both w5 G S kv' bv' rs (decide (F ≠ [])) := ⟨HR4.out.mod hm5 (by omega) HKS.out, hs5, hSG, HKS.out, fun k hk => ⟨by have := hkb k hk; omega, fun e => by
              have := (own_lt HR4.out.own e).2
              have := hkb k hk
              omega⟩⟩
            have HB5 := Lib.hid (HB4.out.trans (hm5.low (n := w.heap.size) (by omega) (fun k hk => by cases hk)))
            have HBO5 := Lib.hid hbo5
            have HSA := Lib.hid (fun q => rsame_own (w5.drewN q) wr.heap.size w4.heap.size vl vr acc ((HVL.out.modn hm5 hSw).below (below_drewN (Below.refl _ _) q)) (hvr.below (below_drewN (Below.refl _ _) q)) (by have := HROW.out.1; omega) (fun r hr => (HROW.out.2 r hr).2))
            have HLE := Lib.hid (fun q => pleft_any G kv' rs _ (w5.drewN q) (hbo5.p.on (below_drewN (Below.refl _ _) q)))
            have hc5 := hs5.c0
            obtain ⟨Ab, cb, rfl⟩ := hs5.src.form
            clear hm5 hvr hs5 hkb hbo5 HR hcell2 hcell4
            go_wp2
            go_quiet (first | (go_at_call 8; exact Calls.quiet_of (HSA.out _)) | (go_at_call 9; exact Calls.quiet_of_same ((HLE.out _).mono fun _ _ h => ⟨h.1, h.2.symm⟩)))
            go_wp2
            go_roundw
            case rel => exact ⟨i + 1, all + x.length, kv', _, rs, decide (F ≠ []), by go_num, by go_num, by omega, by omega, hrl, HRD.out, HBO5.out.on (below_drewN (Below.refl _ _) _), below_drewN HB5.out _⟩
            case measure => simp only [intOf]; omega
          | true =>
            obtain rfl : kept = [] := hdk rfl
            have hc0 := hbo.r.c0
            obtain ⟨Ab, cb, rfl⟩ := hbo.r.src.form
            have HSA := Lib.hid (fun q => rsame_nil none none 0 0 (wr.drewN q))
            have HLE := Lib.hid (fun q => pleft_any G kv [] true (wr.drewN q) (HBO2.out.p.on (below_drewN (Below.refl _ _) q)))
            have HP := Lib.hid (pfeed_over G kv [] (.slice Ax x.length cx) wr HBO2.out.p)
            have HR := Lib.hid (rfeed_done S (.slice Ax x.length cx) wr HBO2.out.r.c1)
            clear hbo
            go_wp2_with fail
            refine HP.out.mono ?_
            rintro e w' ⟨rfl, rfl⟩
            go_wp2_with fail
            refine HR.out.mono ?_
            rintro e w' ⟨rfl, rfl⟩
            clear HP HR
            simp only [List.length_nil] at *
            go_wp2
            go_quiet (first | (go_at_call 8; exact Calls.quiet_of (HSA.out _)) | (go_at_call 9; exact Calls.quiet_of_same ((HLE.out _).mono fun _ _ h => ⟨h.1, h.2.symm⟩)))
            go_wp2
            go_roundw
            case rel => exact ⟨i + 1, all + x.length, kv, _, [], true, by go_num, by go_num, by omega, by omega, Nat.zero_le _, fun _ => rfl, HBO2.out.on (below_drewN (Below.refl _ _) _), below_drewN HBW.out _⟩
            case measure => simp only [intOf]; omega
      · clear hbo
        go_wp2
        go_ret
        exact ⟨rfl, HBW.out⟩
    · clear hbo
      go_wp2
      go_ret
      exact ⟨rfl, HBW.out⟩

end Go.Proofs.Ytkaododohnncnaa
