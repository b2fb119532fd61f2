/-
  Package skip's chainOf: a chain of members one behind the other. Conditions: the members lie in memory; the table of math/bits lies where the program laid it.
-/
import Derived.Test.YtcbiiioglklpoaaDoorSkY
import Derived.Maps.RangeWalk
namespace Go.Proofs.YtcbiiioglklpoaaDoor
open Go.RowKit

/-- A slice of members. -/
structure ScAt (w : World) (A : Option Addr) (n c : Nat) (l : List Mb) : Prop where
  len : l.length = n
  le : n ≤ c
  max : c ≤ 9223372036854775807
  at_ : 0 < n → ∃ b o, A = some ⟨b, o, none⟩ ∧ b < w.heap.size ∧ ∀ j x, l[j]? = some x → w.cell? ⟨b, o + j * 2, none⟩ = some (.string ⟨x.1.toArray⟩) ∧ w.cell? ⟨b, o + j * 2 + 1, none⟩ = some (.int .i64 x.2)

theorem ScAt.keep {w w' : World} {A : Option Addr} {n c : Nat} {l : List Mb} (h : ScAt w A n c l) (e : ∀ b o, 0 < n → A = some ⟨b, o, none⟩ → w'.heap[b]? = w.heap[b]?) (hs : w.heap.size ≤ w'.heap.size) : ScAt w' A n c l :=
  ⟨h.len, h.le, h.max, fun hn => by
    obtain ⟨b, o, ea, hb, hc⟩ := h.at_ hn
    refine ⟨b, o, ea, Nat.lt_of_lt_of_le hb hs, fun j x hx => ?_⟩
    have q := e b o hn ea
    exact ⟨(World.cell?_of_block (a := ⟨b, o + j * 2, none⟩) q).trans (hc j x hx).1, (World.cell?_of_block (a := ⟨b, o + j * 2 + 1, none⟩) q).trans (hc j x hx).2⟩⟩
theorem ScAt.below {w w' : World} {A : Option Addr} {n c : Nat} {l : List Mb} (h : ScAt w A n c l) (hb : Below w.heap.size w w') : ScAt w' A n c l :=
  h.keep (fun b o hn ea => by
    obtain ⟨b', o', ea', hb', _⟩ := h.at_ hn
    rw [ea] at ea'
    injection ea' with ea'
    injection ea' with e1 _
    exact hb.block b (by omega)) hb.size
theorem ScAt.nil (w : World) : ScAt w none 0 0 [] := ⟨rfl, Nat.le_refl _, by omega, fun h => absurd h (Nat.lt_irrefl 0)⟩

/-- How a chain's map stands to its nodes: each text's own node, where each text stands once. -/
structure MapIs (g : List UInt8 → Option Nat) (sz : Nat) (ns : List Nd) : Prop where
  has : ∀ m, (g m).isSome = true ↔ m ∈ ns.map (·.2.1)
  own : Each (ns.map (·.2)) → ∀ (k : Nat) (x : Nd), ns[k]? = some x → g x.2.1 = some x.1
  le : sz ≤ ns.length
  eq : Each (ns.map (·.2)) ↔ sz = ns.length

theorem MapIs.start : MapIs (fun _ => none) 0 [] := ⟨fun m => by simp, fun _ k x h => by simp at h, Nat.le_refl _, ⟨fun _ => rfl, fun _ => List.Pairwise.nil⟩⟩

theorem each_ins {ns : List Nd} {p X : Nat} {m : Mb} : Each ((insAt ns p (X, m)).map (·.2)) ↔ m.1 ∉ ns.map (·.2.1) ∧ Each (ns.map (·.2)) := by
  have q := (((insAt_perm' (L := ns) (p := p) (X, m)).map (·.2)).map (·.1)).nodup_iff
  rw [List.map_cons, List.map_cons, List.nodup_cons] at q
  have e : (ns.map (·.2)).map (·.1) = ns.map (·.2.1) := by rw [List.map_map]; rfl
  rw [e] at q
  unfold Each
  rw [q, e]

theorem MapIs.ins {g : List UInt8 → Option Nat} {sz : Nat} {ns : List Nd} (h : MapIs g sz ns) {p X : Nat} {m : Mb} (hp : p ≤ ns.length) :
    MapIs (fun m' => if m' = m.1 then some X else g m') (if (g m.1).isSome then sz else sz + 1) (insAt ns p (X, m)) := by
  have hl := insAt_length hp (X, m)
  have hmem : ∀ m', m' ∈ (insAt ns p (X, m)).map (·.2.1) ↔ m' = m.1 ∨ m' ∈ ns.map (·.2.1) := fun m' => by
    rw [((insAt_perm' (L := ns) (p := p) (X, m)).map (·.2.1)).mem_iff, List.map_cons, List.mem_cons]
  refine ⟨fun m' => ?_, fun he k x hx => ?_, ?_, ?_⟩
  · rw [hmem]
    by_cases e : m' = m.1
    · rw [if_pos e]
      simp [e]
    · rw [if_neg e, h.has]
      simp [e]
  · obtain ⟨h1, h2⟩ := each_ins.1 he
    rw [insAt_get hp] at hx
    have old : ∀ {k' : Nat}, ns[k']? = some x → (if x.2.1 = m.1 then some X else g x.2.1) = some x.1 := fun {k'} hk => by
      have hne : ¬ x.2.1 = m.1 := fun e => h1 (by rw [← e]; exact List.mem_map.2 ⟨x, List.mem_of_getElem? hk, rfl⟩)
      rw [if_neg hne]
      exact h.own h2 k' x hk
    by_cases a1 : k < p
    · rw [if_pos a1] at hx
      exact old hx
    · rw [if_neg a1] at hx
      by_cases a2 : k = p
      · rw [if_pos a2] at hx
        injection hx with hx
        rw [← hx]
        simp
      · rw [if_neg a2] at hx
        exact old hx
  · rw [hl]
    have := h.le
    split <;> omega
  · rw [each_ins, hl, h.eq]
    have hh := h.has m.1
    have := h.le
    by_cases e : (g m.1).isSome = true
    · rw [if_pos e]
      constructor
      · rintro ⟨q, _⟩
        exact absurd (hh.1 e) q
      · intro q
        omega
    · rw [if_neg e]
      constructor
      · rintro ⟨_, q⟩
        omega
      · intro q
        exact ⟨fun e2 => e (hh.2 e2), by omega⟩

theorem run_makeMap_hint (n : Int) (w : World) : (Instr.makeMap 93 (some (.int .i64 n))).run Tryd.prog w = .ok (.map (some w.heap.size)) (w.alloc (.map #[] 0)) := by
  have hu : Tryd.prog.underlying 93 = _ := Tryd.underlying93
  simp [Instr.makeMap, run_underlying hu, asInt, asIntOf, newObj, go_sem]
  rfl

/-- A new chain, ahead of its trail. -/
theorem chain_start {w W : World} {M seed : Nat} {Y : Array Value} (hM : w.heap.size = M) (hz : Tz w) (hg : 0 < M) (hs : seed < 18446744073709551616)
    (hW : (((w.alloc (.cells Y 106)).alloc (.map #[] 0)).alloc (.cells #[.int .u64 (seed : Nat), .pointer (some ⟨M, 0, none⟩), .map (some (M + 1)), .int .i64 0] 95)) = W)
    (hY : Y = ((List.range 35).map (xF ⟨#[]⟩ 0)).toArray) :
    CkOn W M seed (M + 2) M (M + 1) 0 0 [] (fun _ => xF ⟨#[]⟩ 0) (fun _ => none) 0 ∧ Below M w W ∧ W.heap.size = M + 3 := by
  subst hY
  subst hM
  have h1 := rowIs_alloc_map w 35 (xF ⟨#[]⟩ 0) 106
  obtain ⟨w1, e1⟩ : ∃ w1, w.alloc (.cells ((List.range 35).map (xF ⟨#[]⟩ 0)).toArray 106) = w1 := ⟨_, rfl⟩
  have s1 : w1.heap.size = w.heap.size + 1 := by rw [← e1]; simp
  have b1 : Below w.heap.size w w1 := by rw [← e1]; exact (Below.refl _ _).alloc (Nat.le_refl _) _
  rw [e1] at h1 hW
  have h2 := nm_made w1
  obtain ⟨w2, e2⟩ : ∃ w2, w1.alloc (.map #[] 0) = w2 := ⟨_, rfl⟩
  have s2 : w2.heap.size = w.heap.size + 2 := by rw [← e2]; simp [s1]
  have b2 : Below w.heap.size w w2 := by rw [← e2]; exact b1.alloc (by omega) _
  have h12 : w2.rowIs w.heap.size 106 35 (xF ⟨#[]⟩ 0) := by rw [← e2]; exact h1.alloc _
  rw [e2] at h2 hW
  have h3 := World.rowIs_alloc w2 #[.int .u64 (seed : Nat), .pointer (some ⟨w.heap.size, 0, none⟩), .map (some (w.heap.size + 1)), .int .i64 0] 95 (ckF seed w.heap.size (w.heap.size + 1) 0) (fun i hi => by
    have hi : i < 4 := hi
    rcases (by omega : i = 0 ∨ i = 1 ∨ i = 2 ∨ i = 3) with rfl | rfl | rfl | rfl <;> rfl)
  obtain ⟨w3, e3⟩ : ∃ w3, w2.alloc (.cells #[.int .u64 (seed : Nat), .pointer (some ⟨w.heap.size, 0, none⟩), .map (some (w.heap.size + 1)), .int .i64 0] 95) = w3 := ⟨_, rfl⟩
  have b3 : Below w.heap.size w w3 := by rw [← e3]; exact b2.alloc (by omega) _
  have s3 : w3.heap.size = w.heap.size + 3 := by rw [← e3]; simp [s2]
  have h13 : w3.rowIs w.heap.size 106 35 (xF ⟨#[]⟩ 0) := by rw [← e3]; exact h12.alloc _
  have h23 : NMap w3 w1.heap.size 0 (fun _ => none) 0 := h2.block (by rw [← e3]; exact Below.heap_alloc _ _ _ h2.lt)
  rw [s1] at h23
  rw [s2, e3] at h3
  rw [e3] at hW
  subst hW
  refine ⟨⟨h3, ⟨List.pairwise_cons.2 ⟨fun _ h => by simp at h, List.Pairwise.nil⟩, fun b hb => ?_, fun k x hx => by simp at hx, fun k x hx => by simp at hx, fun k b i hb ho hi => ?_⟩, h23, by omega, by omega, fun b hb => ?_, hz.block (b3.block _ hg), hg, hs⟩, b3, s3⟩
  · simp at hb
    subst hb
    exact h13
  · rw [List.drop_nil]
    exact ⟨by unfold xF; rw [if_neg (by omega), if_neg (by omega), if_pos (by omega)], 0, by unfold xF; rw [if_neg (by omega), if_neg (by omega), if_neg (by omega)]⟩
  · simp at hb
    omega

theorem row_clash {w : World} {b n m : Nat} {t u : TypeId} {f q : Nat → Value} {P : Prop} (h : w.rowIs b t n f) (k : w.rowIs b u m q) (hne : t ≠ u) : P := by
  obtain ⟨c1, h1, _⟩ := h
  obtain ⟨c2, h2, _⟩ := k
  rw [h1] at h2
  simp only [Option.some.injEq, Obj.cells.injEq] at h2
  exact absurd h2.2.1 hne

theorem trf_one {lv : Mb → Nat} {h p : Nat} {ns : List Nd} {f : Nat → Value} (ht : ∀ l, l < 16 → TrF lv h ns p f l) : ∀ l, l < 32 → (f l).oneCell' = true := fun l hl => by
  obtain ⟨k1, b1, _, _, q1, q2⟩ := ht (l / 2) (by omega)
  rcases (by omega : l = l / 2 * 2 ∨ l = l / 2 * 2 + 1) with e | e
  · rw [e, q1]; rfl
  · rw [e, q2]; rfl

/-- A trail of heads. -/
theorem trail_start {lv : Mb → Nat} {h : Nat} {f : Nat → Value} (hf : ∀ j, j < 16 → f (j * 2) = .pointer (some ⟨h, 0, none⟩) ∧ f (j * 2 + 1) = .int .i64 0) : ∀ l, l < 16 → TrF lv h [] 0 f l := fun l hl =>
  ⟨0, h, BlkAt.zero, ⟨Nat.le_refl _, Or.inl rfl, rfl⟩, (hf l hl).1, (hf l hl).2⟩

set_option maxRecDepth 100000 in
set_option maxHeartbeats 8000000 in
theorem chainOf_any (seed : Nat) (hsd : seed < 18446744073709551616) {A : Option Addr} {n cp : Nat} {l : List Mb} (w : World) (hl : ScAt w A n cp l) (hn : n ≤ 800000) (hb : ∀ x ∈ l, x.1.length ≤ 1000000000) (hz : Tz w) (hg : 0 < w.heap.size) :
    Calls Tryd.prog 48 #[.int .u64 (seed : Nat), .slice A n cp] w fun e w' => ∃ (c h mb : Nat) (ns : List Nd) (S : Nat → Nat → Value) (g : List UInt8 → Option Nat) (sz : Nat), e = .returned (.pointer (some ⟨c, 0, none⟩)) ∧
      CkOn w' w.heap.size seed c h mb n 0 ns S g sz ∧ ns.map (·.2) = l ∧ MapIs g sz ns ∧ Below w.heap.size w w' := by
  have HL := Lib.hid hl
  have HN := Lib.hid hn
  have HB := Lib.hid hb
  have HZ := Lib.hid hz
  have HG := Lib.hid hg
  have HSD := Lib.hid hsd
  have hmm := run_makeMap_hint
  clear hl hn hb hz hg hsd
  go_enter Tryd.func48, Tryd.ntmps48
  go_wp2
  generalize hW2 : World.alloc (World.alloc (World.alloc w _) _) _ = W2
  obtain ⟨M, hM⟩ : ∃ M, w.heap.size = M := ⟨_, rfl⟩
  have HMh := Lib.hid hM
  rw [hM] at hW2
  obtain ⟨hck, hbe, hsz⟩ := chain_start hM HZ.out (by rw [← hM]; exact HG.out) HSD.out hW2 rfl
  rw [hM]
  have HCK := Lib.hid hck
  have HBE := Lib.hid hbe
  have HSZ := Lib.hid hsz
  clear hW2 hck hbe
  generalize hW3 : World.alloc W2 _ = W3
  have r3 : W3.rowIs (M + 3) 125 32 zf := by rw [← hW3, ← hsz]; exact rowIs_alloc_map W2 32 zf 125
  have HB3 : Hid (Below M w W3) := by unfold Hid; rw [← hW3]; exact HBE.out.alloc (by omega) _
  have HCK3 : Hid (CkOn W3 M seed (M + 2) M (M + 1) 0 0 [] (fun _ => xF ⟨#[]⟩ 0) (fun _ => none) 0) := HCK.out.below (by rw [← hW3]; exact (Below.refl _ _).alloc (Nat.le_refl _) _)
  have HR3 := Lib.hid r3
  have c1 : W3.cell? ⟨M + 2, 1, none⟩ = some (.pointer (some ⟨M, 0, none⟩)) := HCK3.out.blk.cell (i := 1) (by omega)
  have HC1 := Lib.hid c1
  clear hW3 hsz hM r3 c1
  go_loopw [18] (fun iv wr => ∃ (i : Nat) (f : Nat → Value), iv = .int .i64 i ∧ i ≤ 16 ∧ wr.rowIs (M + 3) 125 32 f ∧ (∀ j, j < 16 → (f (j * 2) = if j < i then .pointer (some ⟨M, 0, none⟩) else .pointer none) ∧ f (j * 2 + 1) = .int .i64 0) ∧ Only (· = M + 3) W3 wr) (fun iv _ => 16 - (intOf iv).toNat)
  case atStart => exact ⟨0, zf, rfl, by omega, HR3.out, fun j hj => ⟨by rw [if_neg (by omega)]; unfold zf; rw [if_pos (by omega)], by unfold zf; rw [if_neg (by omega)]⟩, Only.refl _ _⟩
  case round =>
    obtain ⟨i, f, rfl, hi, hr, hf, ho⟩ := hrel
    have HR := Lib.hid hr
    have HF := Lib.hid hf
    have HO := Lib.hid ho
    have c1 : wr.cell? ⟨M + 2, 1, none⟩ = some (.pointer (some ⟨M, 0, none⟩)) := HO.out.cell HC1.out (by dsimp only; omega)
    clear hr hf ho
    by_cases hlt : i < 16
    · have e0 := HR.out.cell (i := i * 2) (by omega)
      have ef := HR.out.frozen (i * 2)
      obtain ⟨U, hU⟩ : ∃ u, f (i * 2) = u := ⟨_, rfl⟩
      rw [hU] at e0
      clear hU
      go_wp2
      go_roundw
      case rel =>
        refine ⟨i + 1, _, by go_num, by omega, HR.out.set (i * 2) _, fun j hj => ⟨?_, ?_⟩, HO.out.set (q := ⟨M + 3, _, none⟩) rfl _⟩
        · by_cases e : j = i
          · subst e
            rw [if_pos rfl, if_pos (by omega)]
          · rw [if_neg (by omega), (HF.out j hj).1]
            by_cases h : j < i
            · rw [if_pos h, if_pos (by omega)]
            · rw [if_neg h, if_neg (by omega)]
        · rw [if_neg (by omega)]
          exact (HF.out j hj).2
      case measure => simp only [intOf]; omega
    · have hi16 : i = 16 := by omega
      have HI16 := Lib.hid hi16
      have hni : ¬ (i : Int) < 16 := by omega
      clear hi16 hlt hi
      have HCKr : Hid (CkOn wr M seed (M + 2) M (M + 1) 0 0 [] (fun _ => xF ⟨#[]⟩ 0) (fun _ => none) 0) := HCK3.out.keep (fun b hb => HO.out.block b (HCK3.out.lt hb) (by
        rcases hb with e | e | e
        · omega
        · omega
        · simp at e; omega)) (HO.out.block _ (by have := HCK3.out.bg; have := HCK3.out.blk.lt; omega) (by have := HCK3.out.bg; omega))
      have HBr : Hid (Below M w wr) := HB3.out.trans (HO.out.below (by have := HR3.out.lt; omega) (fun k hk e => by omega))
      have HTR : Hid (∀ l, l < 16 → TrF (lvS seed) M [] 0 f l) := trail_start (fun j hj => ⟨by rw [(HF.out j hj).1, if_pos (by have := HI16.out; omega)], (HF.out j hj).2⟩)
      clear c1
      go_wp2
      go_loopw [31] (fun iv wr => ∃ (j : Nat) (ns : List Nd) (S : Nat → Nat → Value) (g : List UInt8 → Option Nat) (sz : Nat) (ft : Nat → Value), iv = .int .i64 j ∧ j ≤ n ∧ CkOn wr M seed (M + 2) M (M + 1) j 0 ns S g sz ∧ ns.map (·.2) = l.take j ∧ MapIs g sz ns ∧
        wr.rowIs (M + 3) 125 32 ft ∧ (∀ l, l < 16 → TrF (lvS seed) M ns ns.length ft l) ∧ Below M w wr) (fun iv _ => n - (intOf iv).toNat)
      case atStart => exact ⟨0, [], _, _, 0, f, rfl, by omega, HCKr.out, by simp, MapIs.start, HR.out, HTR.out, HBr.out⟩
      case round =>
        obtain ⟨j, ns, S, g, sz, ft, rfl, hj, hck, hns, hmi, hr, htr, hbw⟩ := hrel
        have HCK4 := Lib.hid hck
        have HNS := Lib.hid hns
        have HMI := Lib.hid hmi
        have HR4 := Lib.hid hr
        have HT4 := Lib.hid htr
        have HB4 := Lib.hid hbw
        have hnl : ns.length = j := by
          have := congrArg List.length hns
          rw [List.length_map, List.length_take, HL.out.len] at this
          omega
        have HNL := Lib.hid hnl
        clear hck hns hmi hr htr hbw hnl
        by_cases hlt2 : j < n
        · obtain ⟨b, o, ea, hbl, hc⟩ := HL.out.at_ (by omega)
          obtain ⟨x, hx⟩ : ∃ x, l[j]? = some x := ⟨_, List.getElem?_eq_getElem (by rw [HL.out.len]; exact hlt2)⟩
          obtain ⟨x0, x1⟩ := hc j x hx
          have hbM : b < M := by rw [← HMh.out]; exact hbl
          have y0 := (HB4.out.cell (p := ⟨b, o + j * 2, none⟩) hbM).trans x0
          have y1 := (HB4.out.cell (p := ⟨b, o + j * 2 + 1, none⟩) hbM).trans x1
          obtain ⟨SM, hSM⟩ : ∃ SM : ByteArray, (⟨x.1.toArray⟩ : ByteArray) = SM := ⟨_, rfl⟩
          obtain ⟨MN, hMN⟩ : ∃ MN, x.2 = MN := ⟨_, rfl⟩
          rw [hSM] at y0
          rw [hMN] at y1
          have HX := Lib.hid hx
          have hjn : (j : Int) < (n : Int) := by omega
          have hn8 : n ≤ 800000 := HN.out
          have HLY := Lib.hid (fun (W : World) (hW : Below wr.heap.size wr W) => lay_any (p := ns.length) (f := ft) x W (HCK4.out.below hW) HT4.out (Nat.le_refl _) (by rw [HNL.out]; have := HN.out; omega) (by have := HN.out; omega) (HB.out x (List.mem_of_getElem? hx)))
          rw [hSM, hMN] at HLY
          subst ea
          clear hc x0 x1 hx hSM hMN hbl
          go_wp2_with (first | (refine load_trail rfl (.tmp 6) rfl (M + 3) rfl ft (HR4.out.alloc _) ?_) | fail)
          refine (HLY.out _ ((Below.refl _ _).alloc (Nat.le_refl _) _)).mono ?_
          rintro e w6 ⟨f6, X, S6, rfl, hX, hck6, htr6, ho6⟩
          have hE : ¬ CkF (M + 2) M (M + 1) ns (M + 3) := fun e => by
            rcases e with e | e | e
            · omega
            · omega
            · exact row_clash (HCK4.out.ch.row _ e) HR4.out (by decide)
          have HR6 : Hid (w6.rowIs (M + 3) 125 32 ft) := ho6.row (HR4.out.alloc _) hE
          have HB6 : Hid (Below M w w6) := (HB4.out.alloc (by have := HR4.out.lt; omega) _).trans (ho6.below (by have := HR4.out.lt; simp; omega) (fun k hk e => by have := HCK4.out.lo e; omega))
          have H1 := Lib.hid (trf_one htr6)
          have HCK6 := Lib.hid hck6
          have HT6 := Lib.hid htr6
          clear hck6 htr6 ho6 hE
          go_wp2_with (first | (refine store_trail rfl (.tmp 6) (.tmp 38) rfl (M + 3) rfl ft f6 HR6.out rfl H1.out ?_) | fail)
          intro w7 hr7 ho7
          have HCK7 : Hid (CkOn w7 M seed (M + 2) M (M + 1) (j + 1) 0 (insAt ns ns.length (X, x)) S6 (fun m' => if m' = x.1 then some X else g m') (if (g x.1).isSome then sz else sz + 1)) := HCK6.out.keep (fun b hb => ho7.block b (HCK6.out.lt hb) (fun e => by
              subst e
              rcases hb with e | e | e
              · omega
              · omega
              · exact row_clash (HCK6.out.ch.row _ e) HR6.out (by decide))) (ho7.block _ (by have := HCK6.out.bg; have := HCK6.out.blk.lt; omega) (by have := HCK6.out.bg; omega))
          have HB7 : Hid (Below M w w7) := HB6.out.trans (ho7.below (by have := HR6.out.lt; omega) (fun k hk e => by omega))
          have HR7 := Lib.hid hr7
          clear hr7 ho7
          go_wp2
          go_roundw
          case rel =>
            refine ⟨j + 1, insAt ns ns.length (X, x), S6, _, _, f6, by go_num, by omega, HCK7.out, ?_, HMI.out.ins (Nat.le_refl _), HR7.out, ?_, HB7.out⟩
            · unfold insAt
              rw [List.take_length, List.drop_length, List.map_append, HNS.out, List.take_add_one, HX.out]
              rfl
            · intro q hq
              rw [insAt_length (Nat.le_refl _)]
              exact HT6.out q hq
          case measure => simp only [intOf]; omega
        · obtain rfl : j = n := by omega
          have HNE : Hid (ns.map (·.2) = l) := by
            unfold Hid
            rw [HNS.out, List.take_of_length_le (by rw [HL.out.len]; exact Nat.le_refl _)]
          go_wp2
          go_ret
          exact ⟨M + 2, M, M + 1, ns, S, g, sz, rfl, by rw [HMh.out]; exact HCK4.out, HNE.out, HMI.out, by rw [HMh.out]; exact HB4.out⟩

end Go.Proofs.YtcbiiioglklpoaaDoor
