/-
  Package skip's lay: a node is laid behind a trail. Conditions: the chain stands; the trail is that of a place.
-/
import Derived.Test.YtcbiiioglklpoaaDoorSkZa
namespace Go.Proofs.YtcbiiioglklpoaaDoor
open Go.RowKit

def lvS (seed : Nat) (m : Mb) : Nat := lvT seed m.1
theorem lvS_pos (seed : Nat) (m : Mb) : 0 < lvS seed m := lvT_pos _ _

/-- A chain's head. -/
def ckF (seed h mb : Nat) (lp : Int) (i : Nat) : Value := if i = 0 then .int .u64 (seed : Nat) else if i = 1 then .pointer (some ⟨h, 0, none⟩) else if i = 2 then .map (some mb) else .int .i64 lp

/-- A chain in memory. -/
structure CkOn (w : World) (base seed c h mb N : Nat) (lp : Int) (ns : List Nd) (S : Nat → Nat → Value) (g : List UInt8 → Option Nat) (sz : Nat) : Prop where
  blk : w.rowIs c 95 4 (ckF seed h mb lp)
  ch : ChOn (lvS seed) w h ns S
  mp : NMap w mb N g sz
  loc : base ≤ c
  lom : base ≤ mb
  lon : ∀ b ∈ h :: ns.map (·.1), base ≤ b
  tz : Tz w
  bg : 0 < base
  sd : seed < 18446744073709551616

/-- A chain's own blocks. -/
def CkF (c h mb : Nat) (ns : List Nd) (b : Nat) : Prop := b = c ∨ b = mb ∨ b ∈ h :: ns.map (·.1)

section
variable {w w' : World} {base seed c h mb N : Nat} {lp : Int} {ns : List Nd} {S : Nat → Nat → Value} {g : List UInt8 → Option Nat} {sz : Nat}

theorem CkOn.nec (k : CkOn w base seed c h mb N lp ns S g sz) : c ∉ h :: ns.map (·.1) := fun hm => by
  have h1 := k.ch.row c hm
  obtain ⟨c1, h1, _⟩ := h1
  obtain ⟨c2, h2, _⟩ := k.blk
  rw [h1] at h2
  simp only [Option.some.injEq, Obj.cells.injEq] at h2
  exact absurd h2.2.1 (by decide)
theorem CkOn.nem (k : CkOn w base seed c h mb N lp ns S g sz) : mb ∉ h :: ns.map (·.1) := fun hm => k.mp.ne_row (k.ch.row mb hm) rfl
theorem CkOn.necm (k : CkOn w base seed c h mb N lp ns S g sz) : c ≠ mb := k.mp.ne_row k.blk
theorem CkOn.lt (k : CkOn w base seed c h mb N lp ns S g sz) {b : Nat} (hb : CkF c h mb ns b) : b < w.heap.size := by
  rcases hb with rfl | rfl | hb
  · exact k.blk.lt
  · exact k.mp.lt
  · exact k.ch.lt hb
theorem CkOn.lo (k : CkOn w base seed c h mb N lp ns S g sz) {b : Nat} (hb : CkF c h mb ns b) : base ≤ b := by
  rcases hb with rfl | rfl | hb
  · exact k.loc
  · exact k.lom
  · exact k.lon b hb
theorem CkOn.keep (k : CkOn w base seed c h mb N lp ns S g sz) (e : ∀ b, CkF c h mb ns b → w'.heap[b]? = w.heap[b]?) (e0 : w'.heap[0]? = w.heap[0]?) : CkOn w' base seed c h mb N lp ns S g sz :=
  ⟨k.blk.of_block (e c (Or.inl rfl)), k.ch.keep (fun b hb => e b (Or.inr (Or.inr hb))), k.mp.block (e mb (Or.inr (Or.inl rfl))), k.loc, k.lom, k.lon, k.tz.block e0, k.bg, k.sd⟩
theorem CkOn.below (k : CkOn w base seed c h mb N lp ns S g sz) (hb : Below w.heap.size w w') : CkOn w' base seed c h mb N lp ns S g sz :=
  k.keep (fun b hb' => hb.block b (k.lt hb')) (hb.block _ (by have := k.bg; have := k.loc; have := k.blk.lt; omega))
end

/-- A new node's cells. -/
def xF (SM : ByteArray) (MN : Int) (i : Nat) : Value := if i = 0 then .string SM else if i = 1 then .int .i64 MN else if i % 2 = 1 ∨ i = 2 then .pointer none else .int .i64 0
def sF (SM : ByteArray) (MN : Int) (i : Nat) : Value := if i = 0 then .string SM else .int .i64 MN

def xG (SM : ByteArray) (MN : Int) (o : Option Nat) (i : Nat) : Value := if i = 2 then ptrV o else xF SM MN i

theorem rows2 {w : World} {t : TypeId} (a b : Value) (f : Nat → Value) (h0 : f 0 = a) (h1 : f 1 = b) : (w.alloc (.cells #[a, b] t)).rowIs w.heap.size t 2 f :=
  World.rowIs_alloc w #[a, b] t f (fun i hi => by
    have hi : i < 2 := hi
    rcases (by omega : i = 0 ∨ i = 1) with rfl | rfl
    · rw [h0]; rfl
    · rw [h1]; rfl)

theorem lay_start {w W : World} {M X : Nat} {T Z Y : Array Value} {f : Nat → Value} {SM : ByteArray} {MN q : Int} (hM : w.heap.size = M) (hX : X = M + 3)
    (hW : ((((w.alloc (.cells T 125)).alloc (.cells #[.string SM, .int .i64 MN] 47)).alloc (.cells Z 125)).alloc (.cells Y 106)).alloc (.cells #[.pointer (some ⟨X, 0, none⟩), .int .i64 q] 123) = W)
    (hT : T = ((List.range 32).map f).toArray) (hZ : Z = ((List.range 32).map zf).toArray) (hY : Y = ((List.range 35).map (xF SM MN)).toArray) :
    W.rowIs M 125 32 f ∧ W.rowIs (M + 1) 47 2 (sF SM MN) ∧ W.rowIs (M + 2) 125 32 zf ∧ W.rowIs (M + 3) 106 35 (xF SM MN) ∧ W.rowIs (M + 4) 123 2 (ytF (some ⟨M + 3, 0, none⟩) q) ∧ Below M w W ∧ W.heap.size = M + 5 := by
  subst hX hT hZ hY
  subst hM
  have h1 := rowIs_alloc_map w 32 f 125
  obtain ⟨w1, e1⟩ : ∃ w1, w.alloc (.cells ((List.range 32).map f).toArray 125) = w1 := ⟨_, rfl⟩
  have s1 : w1.heap.size = w.heap.size + 1 := by rw [← e1]; simp
  have b1 : Below w.heap.size w w1 := by rw [← e1]; exact (Below.refl _ _).alloc (Nat.le_refl _) _
  rw [e1] at h1 hW
  have h2 := rows2 (w := w1) (t := 47) (.string SM) (.int .i64 MN) (sF SM MN) rfl rfl
  obtain ⟨w2, e2⟩ : ∃ w2, w1.alloc (.cells #[.string SM, .int .i64 MN] 47) = w2 := ⟨_, rfl⟩
  have s2 : w2.heap.size = w.heap.size + 2 := by rw [← e2]; simp [s1]
  have b2 : Below w.heap.size w w2 := by rw [← e2]; exact b1.alloc (by omega) _
  have h12 : w2.rowIs w.heap.size 125 32 f := by rw [← e2]; exact h1.alloc _
  rw [e2] at h2 hW
  have h3 := rowIs_alloc_map w2 32 zf 125
  obtain ⟨w3, e3⟩ : ∃ w3, w2.alloc (.cells ((List.range 32).map zf).toArray 125) = w3 := ⟨_, rfl⟩
  have s3 : w3.heap.size = w.heap.size + 3 := by rw [← e3]; simp [s2]
  have b3 : Below w.heap.size w w3 := by rw [← e3]; exact b2.alloc (by omega) _
  have h13 : w3.rowIs w.heap.size 125 32 f := by rw [← e3]; exact h12.alloc _
  have h23 : w3.rowIs w1.heap.size 47 2 (sF SM MN) := by rw [← e3]; exact h2.alloc _
  rw [e3] at h3 hW
  have h4 := rowIs_alloc_map w3 35 (xF SM MN) 106
  obtain ⟨w4, e4⟩ : ∃ w4, w3.alloc (.cells ((List.range 35).map (xF SM MN)).toArray 106) = w4 := ⟨_, rfl⟩
  have s4 : w4.heap.size = w.heap.size + 4 := by rw [← e4]; simp [s3]
  have b4 : Below w.heap.size w w4 := by rw [← e4]; exact b3.alloc (by omega) _
  have h14 : w4.rowIs w.heap.size 125 32 f := by rw [← e4]; exact h13.alloc _
  have h24 : w4.rowIs w1.heap.size 47 2 (sF SM MN) := by rw [← e4]; exact h23.alloc _
  have h34 : w4.rowIs w2.heap.size 125 32 zf := by rw [← e4]; exact h3.alloc _
  rw [e4] at h4 hW
  have h5 := rows2 (w := w4) (t := 123) (.pointer (some ⟨w.heap.size + 3, 0, none⟩)) (.int .i64 q) (ytF (some ⟨w.heap.size + 3, 0, none⟩) q) rfl rfl
  rw [s1] at h24
  rw [s2] at h34
  rw [s3] at h4
  rw [s4] at h5
  subst hW
  exact ⟨h14.alloc _, h24.alloc _, h34.alloc _, h4.alloc _, h5, b4.alloc (by omega) _, by simp [s4]⟩

set_option maxRecDepth 100000 in
set_option maxHeartbeats 8000000 in
theorem lay_any {base seed c h mb N p : Nat} {lp : Int} {ns : List Nd} {S : Nat → Nat → Value} {g : List UInt8 → Option Nat} {sz : Nat} {f : Nat → Value} (m : Mb) (w : World)
    (hk : CkOn w base seed c h mb N lp ns S g sz) (hf : ∀ l, l < 16 → TrF (lvS seed) h ns p f l) (hp : p ≤ ns.length) (hn : ns.length ≤ 900000) (hN : N ≤ 1000000000) (hm : m.1.length ≤ 1000000000) :
    Calls Tryd.prog 69 #[.pointer (some ⟨c, 0, none⟩), aggF 32 f, .agg #[.string ⟨m.1.toArray⟩, .int .i64 m.2]] w fun e w' => ∃ (f' : Nat → Value) (X : Nat) (S' : Nat → Nat → Value), e = .returned (aggF 32 f') ∧ w.heap.size ≤ X ∧
      CkOn w' base seed c h mb (N + 1) lp (insAt ns p (X, m)) S' (fun m' => if m' = m.1 then some X else g m') (if (g m.1).isSome then sz else sz + 1) ∧ (∀ l, l < 16 → TrF (lvS seed) h (insAt ns p (X, m)) (p + 1) f' l) ∧ Only (CkF c h mb ns) w w' := by
  have HK := Lib.hid hk
  have HF := Lib.hid hf
  have HP := Lib.hid hp
  have HN := Lib.hid hn
  have HNN := Lib.hid hN
  have HMM := Lib.hid hm
  obtain ⟨sz', hsz'⟩ : ∃ s, (if (g m.1).isSome then sz else sz + 1) = s := ⟨_, rfl⟩
  rw [hsz']
  have HSZ' := Lib.hid hsz'
  clear hsz'
  obtain ⟨SM, hSM⟩ : ∃ SM : ByteArray, (⟨m.1.toArray⟩ : ByteArray) = SM := ⟨_, rfl⟩
  obtain ⟨MN, hMN⟩ : ∃ MN, m.2 = MN := ⟨_, rfl⟩
  obtain ⟨T, hT⟩ : ∃ T : Array Value, ((List.range 32).map f).toArray = T := ⟨_, rfl⟩
  obtain ⟨k0, b0, t1, t2, t3, t4⟩ := hf 0 (by omega)
  obtain rfl := t2.low (lvS_pos seed) hp
  have HB0 := Lib.hid t1
  have T0 : T[0]? = some (.pointer (some ⟨b0, 0, none⟩)) := by
    rw [← hT]
    have : f 0 = .pointer (some ⟨b0, 0, none⟩) := t3
    simp [this]
  have T1 : T[1]? = some (.int .i64 (k0 : Nat)) := by
    rw [← hT]
    have : f 1 = .int .i64 (k0 : Nat) := t4
    simp [this]
  have HT := Lib.hid hT
  obtain ⟨p1, hp1⟩ : ∃ p1, k0 + 1 = p1 := ⟨_, rfl⟩
  have hwp : IntKind.i64.wrap ((k0 : Int) + 1) = (p1 : Int) := by rw [IntWalk.i64_in _ (by omega)]; omega
  have HP1 := Lib.hid hp1
  rw [hSM, hMN, show aggF 32 f = .agg T from by unfold aggF; rw [hT], hp1]
  clear t1 t2 t3 t4 hT hp1
  have HSM := Lib.hid hSM
  have HMN := Lib.hid hMN
  clear hk hf hp hn hN hm hSM hMN
  go_enter Tryd.func69, Tryd.ntmps69
  go_wp2_with fail
  generalize hW2 : World.alloc _ _ = W2
  obtain ⟨r1, r2, r3, r4, r5, r6, r7⟩ := lay_start (f := f) rfl rfl hW2 HT.out.symm rfl rfl
  clear hW2
  obtain ⟨M, hM⟩ : ∃ M, w.heap.size = M := ⟨_, rfl⟩
  rw [hM] at r1 r2 r3 r4 r5 r6 r7 ⊢
  have hK2 : CkOn W2 base seed c h mb N lp ns S g sz := HK.out.below (by rw [hM]; exact r6)
  have HK2 := Lib.hid hK2
  have c0 : W2.cell? ⟨M, 0, none⟩ = some (.pointer (some ⟨b0, 0, none⟩)) := (r1.cell (i := 0) (by omega)).trans (by rw [← HT.out] at T0; simpa using T0)
  have c1 : W2.cell? ⟨c, 1, none⟩ = some (.pointer (some ⟨h, 0, none⟩)) := hK2.blk.cell (i := 1) (by omega)
  have R1 := Lib.hid r1
  have R2 := Lib.hid r2
  have R3 := Lib.hid r3
  have R4 := Lib.hid r4
  have R5 := Lib.hid r5
  have R6 := Lib.hid r6
  have R7 := Lib.hid r7
  have HMh := Lib.hid hM
  have hcase : (h = b0 ∧ backOf ns k0 = none) ∨ (¬ b0 = h ∧ backOf ns k0 = some b0) := by
    rcases k0 with _ | k1
    · exact Or.inl ⟨(BlkAt.fun HB0.out BlkAt.zero).symm, rfl⟩
    · obtain ⟨x, hx, rfl⟩ := HB0.out.of_succ
      refine Or.inr ⟨fun e => ?_, ?_⟩
      · have := BlkAt.inj HK2.out.ch.one (BlkAt.succ hx) (by rw [e]; exact BlkAt.zero)
        omega
      · unfold backOf
        rw [if_neg (by omega), show k1 + 1 - 1 = k1 from rfl, hx]
        rfl
  clear r1 r2 r3 r4 r5 r6 r7 hK2 T0 T1 hM
  rcases hcase with ⟨rfl, hbk⟩ | ⟨hne, hbk⟩
  · have n1 := neq_of_eql (eql_node_same W2 h)
    have n2 := neq_of_eql (eql_node_same W2.drew h)
    have n3 := neq_of_eql (eql_node_same W2.drew.drew h)
    simp only [Bool.not_true] at n1 n2 n3
    go_region
    all_goals
      go_wp2
      obtain ⟨W3, hW3⟩ : ∃ W3, W2.drew = W3 := ⟨_, rfl⟩
      rw [hW3]
      have A1 : Hid (W3.rowIs M 125 32 f) := by rw [← hW3]; exact R1
      have A2 : Hid (W3.rowIs (M + 1) 47 2 (sF SM MN)) := by rw [← hW3]; exact R2
      have A3 : Hid (W3.rowIs (M + 2) 125 32 zf) := by rw [← hW3]; exact R3
      have A4 : Hid (W3.rowIs (M + 3) 106 35 (xG SM MN (backOf ns k0))) := by
        rw [← hW3]
        refine R4.out.congr (fun l _ => ?_)
        unfold xG
        split
        · rename_i e
          rw [e, hbk]
          rfl
        · rfl
      have A5 : Hid (W3.rowIs (M + 4) 123 2 (ytF (some ⟨M + 3, 0, none⟩) (p1 : Nat))) := by rw [← hW3]; exact R5
      have A6 : Hid (Below M w W3 ∧ W3.heap.size = M + 5) := by rw [← hW3]; exact ⟨R6.out.drew, R7⟩
      have A7 : Hid (CkOn W3 base seed c h mb N lp ns S g sz) := HK.out.below (by rw [HMh.out]; exact A6.out.1)
      clear hW3 n1 n2 n3 hbk c0 c1
      have HLV : Hid (∀ X : World, X.heap = W3.heap → Calls Tryd.prog 13 #[.int .u64 (seed : Nat), .string SM] X fun e w' => e = .returned (.int .i64 (lvS seed m : Nat)) ∧ w' = X) := fun X hX => by
        have q := level_any seed A7.out.sd SM X (by rw [← HSM.out]; have := HMM.out; simp [ByteArray.size]; omega) (A7.out.tz.block (by rw [hX]))
        have e : SM.data.toList = m.1 := by rw [← HSM.out]
        rw [e] at q
        exact q
      have c0 := A7.out.blk.cell (i := 0) (by omega)
      rw [show ckF seed h mb lp 0 = .int .u64 (seed : Nat) from rfl] at c0
      have y0 := A2.out.cell (i := 0) (by omega)
      rw [show sF SM MN 0 = .string SM from rfl] at y0
      obtain ⟨L, hL⟩ : ∃ L, lvS seed m = L := ⟨_, rfl⟩
      have HLL := Lib.hid hL
      rw [hL] at HLV
      clear hL
      apply by_oneW (F := fun W => W.heap = W3.heap ∧ W.os = W3.os ∧ W.tape = W3.tape ∧ W.output = W3.output)
      case h1 =>
        intro HFIN
        go_region_with (go_at_call 13; refine (HLV.out _ (by rfl)).mono ?_; rintro en w4 ⟨rfl, rfl⟩)
        all_goals
          generalize hW4 : World.drew _ = W4
          have hF : W4.heap = W3.heap ∧ W4.os = W3.os ∧ W4.tape = W3.tape ∧ W4.output = W3.output := by rw [← hW4]; exact ⟨rfl, rfl, rfl, rfl⟩
          exact HFIN.out W4 hF
      intro W4 hF4
      go_wp2
      have hl0 : ∀ b ∈ h :: ns.map (·.1), b < M := fun b hb => by have := HK.out.ch.lt hb; have := HMh.out; omega
      have HLO := Lib.hid hl0
      have HONE := Lib.hid HK.out.ch.one
      have HST : Hid (LSt W3 W4 (lvS seed) h ns k0 (M + 3) m M S SM MN (backOf ns k0) 0 S (xG SM MN (backOf ns k0)) f) := by
        unfold Hid
        refine LSt.same ?_ hF4.1 hF4.2.1 hF4.2.2.1 hF4.2.2.2
        exact ⟨A7.out.ch.row, LayInv.start A7.out.ch.way, fun _ _ _ => rfl, A4.out, rfl, rfl, rfl, A1.out, fun l hl => by rw [if_neg (by omega)]; exact HF.out l hl, A2.out, A3.out, (by rw [HP1.out]; exact A5.out), ⟨rfl, rfl, rfl, Nat.le_refl _, fun _ _ _ => rfl⟩⟩
      clear hF4 hl0 c0 y0
      go_loopw [43] (fun iv wr => ∃ (i : Nat) (S' : Nat → Nat → Value) (SX ft : Nat → Value), iv = .int .i64 i ∧ i ≤ 16 ∧ LSt W3 wr (lvS seed) h ns k0 (M + 3) m M S SM MN (backOf ns k0) i S' SX ft) (fun iv _ => 16 - (intOf iv).toNat)
      case atStart => exact ⟨0, S, _, f, rfl, by omega, HST.out⟩
      case round =>
        obtain ⟨i, S', SX, ft, rfl, hi, hst⟩ := hrel
        have HS := Lib.hid hst
        clear hst
        by_cases hlt : i < 16
        · obtain ⟨k, b, Tw, s, hb, ht, hbM, hbm, f0, f1, t0, t1⟩ := HS.out.at_ hlt HLO.out
          have HB := Lib.hid hb
          have HTR := Lib.hid ht
          have hil : (i : Int) < 16 := by omega
          have m0 := HS.out.trow.cell (i := i * 2) (by omega)
          have m1 := HS.out.trow.cell (i := i * 2 + 1) (by omega)
          have fm0 := HS.out.trow.frozen (i * 2)
          have fm1 := HS.out.trow.frozen (i * 2 + 1)
          rw [f0] at m0
          rw [f1] at m1
          have HF0 := Lib.hid f0
          have HF1 := Lib.hid f1
          have b1 := (HS.out.rows b hbm).cell (i := 3 + i * 2) (by omega)
          have b2 := (HS.out.rows b hbm).cell (i := 3 + i * 2 + 1) (by omega)
          have fb1 := (HS.out.rows b hbm).frozen (3 + i * 2)
          have fb2 := (HS.out.rows b hbm).frozen (3 + i * 2 + 1)
          rw [t0] at b1
          rw [t1] at b2
          have HT0 := Lib.hid t0
          have HT1 := Lib.hid t1
          obtain ⟨s1, hs1⟩ : ∃ s1, IntKind.i64.wrap (s + 1) = s1 := ⟨_, rfl⟩
          have HS1 := Lib.hid hs1
          have hbne : M ≠ b := by omega
          have hbne' : b ≠ M := by omega
          clear hb ht f0 f1 t0 t1 hbm
          by_cases hm : i < L
          · have hmi : (i : Int) < (L : Int) := by omega
            obtain ⟨W5, hW5⟩ : ∃ W5, wr.setCell ⟨b, 3 + i * 2 + 1, none⟩ (.int .i64 s1) = W5 := ⟨_, rfl⟩
            have hsz : W5.heap.size = wr.heap.size := by rw [← hW5]; simp
            have n0 : W5.cell? ⟨b, 3 + i * 2, none⟩ = some (.pointer Tw) := by rw [← hW5]; exact (World.cell?_setCell_other wr _ _ _ (by simp)).trans b1
            have n1 : W5.cell? ⟨b, 3 + i * 2 + 1, none⟩ = some (.int .i64 s1) := by
              rw [← hW5]
              have q := (rows_set HS.out.rows b (3 + i * 2 + 1) (.int .i64 s1) b HB.out.mem).cell (i := 3 + i * 2 + 1) (by omega)
              rw [upc_same] at q
              exact q
            obtain ⟨z1, hz1⟩ : ∃ z1, IntKind.i64.wrap ((k : Int) + s1) = z1 := ⟨_, rfl⟩
            have HNX := Lib.hid (next_any (pl := (k : Int)) W5 hlt n0 n1)
            rw [hz1] at HNX
            have HZ1 := Lib.hid hz1
            have HSZ := Lib.hid hsz
            have HW5 := Lib.hid hW5
            clear n0 n1 hz1 hsz hW5 hm
            go_wp2_with fail
            rw [HW5.out]
            refine HNX.out.mono ?_
            rintro en w6 ⟨rfl, hb6⟩
            have HB6 := Lib.hid hb6
            clear hb6
            go_wp2_with fail
            generalize hW7 : World.alloc _ _ = W7
            have rN : W7.rowIs w6.heap.size 123 2 (ytF Tw z1) := by rw [← hW7]; exact rows2 _ _ _ rfl rfl
            have HB7 : Hid (Below W5.heap.size W5 W7) := by
              unfold Hid
              rw [← hW7]
              exact HB6.out.alloc HB6.out.size _
            have e7 : ∀ Y, Y < wr.heap.size → Y ≠ b → W7.heap[Y]? = wr.heap[Y]? := fun Y h1 h2 => by
              rw [HB7.out.block Y (by rw [HSZ.out]; exact h1), ← HW5.out]
              exact Below.heap_setCell _ _ _ _ h2
            have hbl := (HS.out.rows b HB.out.mem).lt
            have eb : W7.heap[b]? = W5.heap[b]? := HB7.out.block b (by rw [HSZ.out]; exact hbl)
            have hxl := HS.out.srow.lt
            have rS := HS.out.srow.of_block (e7 (M + 4) (by omega) (by omega))
            have rX := HS.out.xrow.of_block (e7 (M + 3) (by omega) (by omega))
            have rM := HS.out.trow.of_block (e7 M (by omega) (by omega))
            have rB : W7.rowIs b 106 35 (upc S' b (3 + i * 2 + 1) (.int .i64 s1) b) := by
              have q := rows_set HS.out.rows b (3 + i * 2 + 1) (.int .i64 s1) b HB.out.mem
              rw [HW5.out] at q
              exact q.of_block eb
            have hNB : M + 5 ≤ w6.heap.size := by have := HB6.out.size; rw [HSZ.out] at this; omega
            obtain ⟨NB, hNBe⟩ : ∃ NB, w6.heap.size = NB := ⟨_, rfl⟩
            rw [hNBe] at rN hNB ⊢
            have a0 := rS.cell (i := 0) (by omega)
            have a1 := rS.cell (i := 1) (by omega)
            rw [HP1.out] at a1 a0
            rw [show ytF (some ⟨M + 3, 0, none⟩) (p1 : Nat) 0 = .pointer (some ⟨M + 3, 0, none⟩) from rfl] at a0
            rw [show ytF (some ⟨M + 3, 0, none⟩) (p1 : Nat) 1 = .int .i64 (p1 : Nat) from rfl] at a1
            have d0 := rN.cell (i := 0) (by omega)
            have d1 := rN.cell (i := 1) (by omega)
            rw [show ytF Tw z1 0 = .pointer Tw from rfl] at d0
            rw [show ytF Tw z1 1 = .int .i64 z1 from rfl] at d1
            have u0 := rX.cell (i := 3 + i * 2) (by omega)
            have u1 := rX.cell (i := 3 + i * 2 + 1) (by omega)
            have fu0 := rX.frozen (3 + i * 2)
            have fu1 := rX.frozen (3 + i * 2 + 1)
            have v0 := rB.cell (i := 3 + i * 2) (by omega)
            have v1 := rB.cell (i := 3 + i * 2 + 1) (by omega)
            have fv0 := rB.frozen (3 + i * 2)
            have fv1 := rB.frozen (3 + i * 2 + 1)
            have g0 := rM.cell (i := i * 2) (by omega)
            have g1 := rM.cell (i := i * 2 + 1) (by omega)
            have fg0 := rM.frozen (i * 2)
            have fg1 := rM.frozen (i * 2 + 1)
            rw [HF0.out] at g0
            rw [HF1.out] at g1
            obtain ⟨U0, hU0⟩ : ∃ u, SX (3 + i * 2) = u := ⟨_, rfl⟩
            obtain ⟨U1, hU1⟩ : ∃ u, SX (3 + i * 2 + 1) = u := ⟨_, rfl⟩
            obtain ⟨V0, hV0⟩ : ∃ u, upc S' b (3 + i * 2 + 1) (.int .i64 s1) b (3 + i * 2) = u := ⟨_, rfl⟩
            obtain ⟨V1, hV1⟩ : ∃ u, upc S' b (3 + i * 2 + 1) (.int .i64 s1) b (3 + i * 2 + 1) = u := ⟨_, rfl⟩
            rw [hU0] at u0
            rw [hU1] at u1
            rw [hV0] at v0
            rw [hV1] at v1
            obtain ⟨v2, hv2⟩ : ∃ v2, IntKind.i64.wrap (z1 - (p1 : Int)) = v2 := ⟨_, rfl⟩
            obtain ⟨v3, hv3⟩ : ∃ v3, IntKind.i64.wrap ((p1 : Int) - (k : Int)) = v3 := ⟨_, rfl⟩
            have HSB := Lib.hid (HS.out.stepB (w6 := W7) HONE.out hlt HP.out (by have := HN.out; omega) rfl HLO.out HB.out HTR.out HT0.out HT1.out (by rw [HLL.out]; omega) (by rw [HS1.out, HW5.out, ← HSZ.out]; exact HB7.out))
            rw [HS1.out, HZ1.out, HP1.out, hv2, hv3] at HSB
            have HV3 := Lib.hid hv3
            have RS := Lib.hid rS
            have RM := Lib.hid rM
            have RB := Lib.hid rB
            clear rN e7 eb rS rX rM rB hU0 hU1 hV0 hV1 hW7 hNBe m0 m1 fm0 fm1 b1 b2 fb1 fb2
            go_region
            all_goals
              go_wp2
              obtain ⟨W8, hW8⟩ : ∃ W8, ((W7.setCell ⟨M + 3, 3 + i * 2, none⟩ (.pointer Tw)).setCell ⟨M + 3, 3 + i * 2 + 1, none⟩ (.int .i64 v2)).drew = W8 := ⟨_, rfl⟩
              rw [hW8]
              have rS : W8.rowIs (M + 4) 123 2 (ytF (some ⟨M + 3, 0, none⟩) (p1 : Nat)) := by rw [← hW8, ← HP1.out]; exact (RS.out.setOther (by dsimp only; omega) _).setOther (by dsimp only; omega) _
              have rM : W8.rowIs M 125 32 ft := by rw [← hW8]; exact (RM.out.setOther (by dsimp only; omega) _).setOther (by dsimp only; omega) _
              have rB : W8.rowIs b 106 35 (upc S' b (3 + i * 2 + 1) (.int .i64 s1) b) := by rw [← hW8]; exact (RB.out.setOther (by dsimp only; omega) _).setOther (by dsimp only; omega) _
              clear a0 a1 d0 d1 u0 u1 fu0 fu1 v0 v1 fv0 fv1 g0 g1 fg0 fg1
              have a0 := rS.cell (i := 0) (by omega)
              have a1 := rS.cell (i := 1) (by omega)
              rw [show ytF (some ⟨M + 3, 0, none⟩) (p1 : Nat) 0 = .pointer (some ⟨M + 3, 0, none⟩) from rfl] at a0
              rw [show ytF (some ⟨M + 3, 0, none⟩) (p1 : Nat) 1 = .int .i64 (p1 : Nat) from rfl] at a1
              have v0 := rB.cell (i := 3 + i * 2) (by omega)
              have v1 := rB.cell (i := 3 + i * 2 + 1) (by omega)
              have fv0 := rB.frozen (3 + i * 2)
              have fv1 := rB.frozen (3 + i * 2 + 1)
              have g0 := rM.cell (i := i * 2) (by omega)
              have g1 := rM.cell (i := i * 2 + 1) (by omega)
              have fg0 := rM.frozen (i * 2)
              have fg1 := rM.frozen (i * 2 + 1)
              rw [HF0.out] at g0
              rw [HF1.out] at g1
              obtain ⟨V0', hV0'⟩ : ∃ u, upc S' b (3 + i * 2 + 1) (.int .i64 s1) b (3 + i * 2) = u := ⟨_, rfl⟩
              obtain ⟨V1', hV1'⟩ : ∃ u, upc S' b (3 + i * 2 + 1) (.int .i64 s1) b (3 + i * 2 + 1) = u := ⟨_, rfl⟩
              rw [hV0'] at v0
              rw [hV1'] at v1
              have HW8 := Lib.hid hW8
              clear rS rM rB hV0' hV1' hW8
              go_region
              all_goals
                go_wp2
                refine ⟨?_, by simp only [intOf]; omega⟩
                obtain ⟨S'', SX', ft', hS⟩ := HSB.out
                refine ⟨i + 1, S'', SX', ft', by go_num, by omega, ?_⟩
                rw [← HW8.out, setCell_drew, setCell_drew, setCell_drew, setCell_drew]
                exact hS.drew.drew
          · have hmi : ¬ (i : Int) < (L : Int) := by omega
            have HSA := Lib.hid (HS.out.stepA HONE.out hlt HP.out (by have := HN.out; omega) rfl HLO.out HB.out HTR.out HF0.out HF1.out HT1.out (by rw [HLL.out]; exact hm))
            rw [HS1.out] at HSA
            clear hm
            go_wp2
            go_roundw
            case rel =>
              obtain ⟨S'', hS⟩ := HSA.out
              exact ⟨i + 1, S'', SX, ft, by go_num, by omega, hS⟩
            case measure => simp only [intOf]; omega
        · obtain rfl : i = 16 := by omega
          have hX : M + 3 ∉ h :: ns.map (·.1) := fun e => by have := HLO.out _ e; omega
          have hMn : M ∉ h :: ns.map (·.1) := fun e => by have := HLO.out _ e; omega
          obtain ⟨Tw, s, t0, t1, t2⟩ := (HS.out.inv.2 0 (by omega) (lvS_pos _ _)).ex
          have hlw := low_way (lv := lvS seed) (ns := ns) (p := k0) (lvS_pos seed)
          have hfin : (Tw = none ∧ ∃ S9 : Nat → Nat → Value, (∀ b j, j ≠ 2 → S9 b j = S' b j) ∧ (∀ k x, ns[k]? = some x → S9 x.1 2 = if k = k0 then .pointer (some ⟨M + 3, 0, none⟩) else S' x.1 2) ∧ (∀ b ∈ h :: ns.map (·.1), wr.rowIs b 106 35 (S9 b))) ∨
              (∃ (nb : Nat) (u : Value) (S9 : Nat → Nat → Value), Tw = some ⟨nb, 0, none⟩ ∧ nb ∈ h :: ns.map (·.1) ∧ nb < M ∧ (∀ b j, j ≠ 2 → S9 b j = S' b j) ∧ (∀ k x, ns[k]? = some x → S9 x.1 2 = if k = k0 then .pointer (some ⟨M + 3, 0, none⟩) else S' x.1 2) ∧
                wr.cell? ⟨nb, 2, none⟩ = some u ∧ wr.frozen? ⟨nb, 2, none⟩ = false ∧ (∀ b ∈ h :: ns.map (·.1), (wr.setCell ⟨nb, 2, none⟩ (.pointer (some ⟨M + 3, 0, none⟩))).rowIs b 106 35 (S9 b))) := by
            by_cases hkl : k0 < ns.length
            · obtain ⟨x, hx, hw⟩ := hlw.1 hkl
              rw [hw] at t2
              rcases t2 with ⟨e, _⟩ | ⟨d, nb, e, e2, _⟩
              · cases e
              · simp only [Option.some.injEq, Prod.mk.injEq] at e
                obtain ⟨_, rfl⟩ := e
                have hm := (BlkAt.succ (h := h) hx).mem
                refine Or.inr ⟨x.1, _, upc S' x.1 2 (.pointer (some ⟨M + 3, 0, none⟩)), e2, hm, HLO.out _ hm, fun b j hj => upc_cell _ _ _ _ hj, fun k y hy => ?_, (HS.out.rows _ hm).cell (by omega), (HS.out.rows _ hm).frozen 2, rows_set HS.out.rows _ _ _⟩
                by_cases hk : k = k0
                · subst hk
                  rw [if_pos rfl]
                  rw [hx] at hy
                  injection hy with hy
                  rw [hy, upc_same]
                · rw [if_neg hk, upc_block]
                  intro e
                  have q1 := BlkAt.succ (h := h) hy
                  rw [e] at q1
                  have := BlkAt.inj HONE.out q1 (BlkAt.succ hx)
                  omega
            · rw [hlw.2 hkl] at t2
              rcases t2 with ⟨_, e⟩ | ⟨d, nb, e, _⟩
              · refine Or.inl ⟨e, S', fun _ _ _ => rfl, fun k x hx => ?_, HS.out.rows⟩
                have := (List.getElem?_eq_some_iff.1 hx).1
                rw [if_neg (by omega)]
              · cases e
          have a0 := HS.out.srow.cell (i := 0) (by omega)
          rw [show ytF (some ⟨M + 3, 0, none⟩) ((k0 + 1 : Nat) : Int) 0 = .pointer (some ⟨M + 3, 0, none⟩) from rfl] at a0
          have a3 := HS.out.xrow.cell (i := 3) (by omega)
          rw [show SX 3 = .pointer Tw from t0] at a3
          have HFS := Lib.hid hfin
          clear t0 t1 t2 hlw hfin
          rcases HFS.out with ⟨rfl, S9, h91, h92, hrow⟩ | ⟨nb, u, S9, rfl, hnm, hnM, h91, h92, hnc, hnf, hrow⟩
          · have H91 := Lib.hid h91
            have H92 := Lib.hid h92
            clear h91 h92 HFS
            go_wp2
            obtain ⟨W9, hW9⟩ : ∃ W9, wr = W9 := ⟨_, rfl⟩
            have HROW : Hid (∀ b ∈ h :: ns.map (·.1), W9.rowIs b 106 35 (S9 b)) := by rw [← hW9]; exact hrow
            have HX9 : Hid (W9.rowIs (M + 3) 106 35 SX) := by rw [← hW9]; exact HS.out.xrow
            have HT9 : Hid (W9.rowIs M 125 32 ft) := by rw [← hW9]; exact HS.out.trow
            have HR9 : Hid (W9.rowIs (M + 2) 125 32 zf) := by rw [← hW9]; exact HS.out.rrow
            have HM9 : Hid (W9.rowIs (M + 1) 47 2 (fun j => if j = 0 then .string SM else .int .i64 MN)) := by rw [← hW9]; exact HS.out.mrow
            have HO9 : Hid (Only (fun b => b ∈ h :: ns.map (·.1) ∨ M ≤ b) W3 W9) := by rw [← hW9]; exact HS.out.only
            have x9 : W9.cell? ⟨M + 4, 0, none⟩ = some (.pointer (some ⟨M + 3, 0, none⟩)) := by rw [← hW9]; exact a0
            rw [hW9]
            clear hrow hW9 a0 a3
            have q2 : W9.cell? ⟨c, 2, none⟩ = some (.map (some mb)) := (World.cell?_of_block (a := ⟨c, 2, none⟩) (HO9.out.block c (by have := A7.out.blk.lt; omega) (by rintro (e | e); exact A7.out.nec e; have := HK.out.blk.lt; have := HMh.out; omega))).trans (A7.out.blk.cell (i := 2) (by omega))
            have q0 : W9.cell? ⟨M + 1, 0, none⟩ = some (.string SM) := HM9.out.cell (i := 0) (by omega)
            have hnm9 : NMap W9.drew mb N g sz := A7.out.mp.block (HO9.out.block mb A7.out.mp.lt (by rintro (e | e); exact A7.out.nem e; have := HK.out.mp.lt; have := HMh.out; omega))
            obtain ⟨W10, hrun, hnm10, ho10⟩ := nm_store hnm9 SM (by rw [← HSM.out]; have := HMM.out; simp [ByteArray.size]; omega) (by have := HNN.out; omega) (M + 3)
            have HRUN := hrun
            have HNM10 := Lib.hid hnm10
            have HO10 := Lib.hid ho10
            have HT10 : Hid (W10.rowIs M 125 32 ft) := ho10.row (a := W9.drew) HT9.out (fun e => by have := HK.out.mp.lt; have := HMh.out; omega)
            have HR10 : Hid (W10.rowIs (M + 2) 125 32 zf) := ho10.row (a := W9.drew) HR9.out (fun e => by have := HK.out.mp.lt; have := HMh.out; omega)
            have H1 : Hid (∀ l, l < 32 → (ft l).oneCell' = true) := fun l hl => by
              have q := HS.out.tr (l / 2) (by omega)
              rw [if_pos (by omega)] at q
              obtain ⟨k1, b1, _, _, q1, q2⟩ := q
              rcases (by omega : l = l / 2 * 2 ∨ l = l / 2 * 2 + 1) with e | e
              · rw [e, q1]; rfl
              · rw [e, q2]; rfl
            clear hrun hnm9 hnm10 ho10
            go_region
            all_goals
              go_wp2_with (first | (refine load_trail rfl (.tmp 4) rfl M rfl ft HT10.out ?_) | (refine store_trail rfl (.tmp 6) (.tmp 121) rfl (M + 2) rfl zf ft HR10.out rfl H1.out ?_))
              intro W11 hr11 ho11
              go_wp2
              have hbl : ∀ b, b < M → b ≠ mb → W11.heap[b]? = W9.heap[b]? := fun b h1 h2 => by
                have e1 := HO10.out.size
                have e2 : M + 3 ≤ W9.heap.size := HR9.out.lt
                have e3 : W9.drew.heap.size = W9.heap.size := rfl
                rw [ho11.block b (by omega) (by omega), HO10.out.block b (by omega) h2]
                rfl
              have hXm : M + 3 ≠ mb := by have := HK.out.mp.lt; have := HMh.out; omega
              have hX11 : W11.rowIs (M + 3) 106 35 SX := ho11.row (HO10.out.row (a := W9.drew) HX9.out hXm) (by omega)
              have hr9 : ∀ b ∈ h :: ns.map (·.1), W11.rowIs b 106 35 (S9 b) := fun b hb => (HROW.out b hb).of_block (hbl b (HLO.out b hb) (fun e => A7.out.nem (by rw [← e]; exact hb)))
              have hlay := HS.out.chain A7.out.ch HSM.out.symm HMN.out.symm HP.out hX hr9 hX11 H91.out H92.out
              have e93 : ∀ b, b < M → b ∉ h :: ns.map (·.1) → W9.heap[b]? = W3.heap[b]? := fun b h1 h2 => HO9.out.block b (by have := A6.out.2; omega) (by rintro (e | e); exact h2 e; omega)
              have hcM : c < M := by have := HK.out.blk.lt; have := HMh.out; omega
              have hgn : 0 ∉ h :: ns.map (·.1) := fun e => by have := A7.out.lon _ e; have := A7.out.bg; omega
              have eSM : SM.data.toList = m.1 := by rw [← HSM.out]
              have hck : CkOn W11 base seed c h mb (N + 1) lp (insAt ns k0 (M + 3, m)) (joinX S9 (M + 3) SX) (fun m' => if m' = m.1 then some (M + 3) else g m') sz' := by
                refine ⟨A7.out.blk.of_block ((hbl c hcM A7.out.necm).trans (e93 c hcM A7.out.nec)), hlay, ?_, A7.out.loc, A7.out.lom, fun b hb => ?_, A7.out.tz.block ((hbl _ (by have := A7.out.bg; have := A7.out.loc; omega) (fun e => by have := A7.out.bg; have := A7.out.lom; omega)).trans (e93 _ (by have := A7.out.bg; have := A7.out.loc; omega) hgn)), A7.out.bg, A7.out.sd⟩
                · have q := HNM10.out.block (ho11.block mb HNM10.out.lt (by have := HK.out.mp.lt; have := HMh.out; omega))
                  rw [eSM, HSZ'.out] at q
                  exact q
                · rcases (ins_mem _).1 hb with e | e
                  · rw [e]
                    have := A7.out.loc
                    dsimp only
                    omega
                  · exact A7.out.lon b e
              have hon : Only (CkF c h mb ns) w W11 := by
                have o1 : Only (fun b => b ∈ h :: ns.map (·.1) ∨ b = mb ∨ M ≤ b) w W3 := Only.of_below (by rw [HMh.out]; exact A6.out.1)
                have o2 : Only (fun b => b ∈ h :: ns.map (·.1) ∨ b = mb ∨ M ≤ b) W3 W9 := HO9.out.mono (fun b hb => by rcases hb with hb | hb; exact Or.inl hb; exact Or.inr (Or.inr hb))
                have o3 : Only (fun b => b ∈ h :: ns.map (·.1) ∨ b = mb ∨ M ≤ b) W9 W9.drew := ⟨rfl, rfl, rfl, Nat.le_refl _, fun _ _ _ => rfl⟩
                have o4 : Only (fun b => b ∈ h :: ns.map (·.1) ∨ b = mb ∨ M ≤ b) W9.drew W10 := HO10.out.mono (fun b hb => Or.inr (Or.inl hb))
                have o5 : Only (fun b => b ∈ h :: ns.map (·.1) ∨ b = mb ∨ M ≤ b) W10 W11 := ho11.mono (fun b hb => Or.inr (Or.inr (by omega)))
                refine ((((o1.trans o2).trans o3).trans o4).trans o5).mono' (fun b h1 h2 => ?_)
                rw [HMh.out] at h1
                rcases h2 with h2 | h2 | h2
                · exact Or.inr (Or.inr h2)
                · exact Or.inr (Or.inl h2)
                · omega
              exact bodyPost_ret (v := aggF 32 ft) (results_trail rfl _ _ (M + 2) rfl ft hr11) rfl ⟨ft, M + 3, joinX S9 (M + 3) SX, rfl, by have := HMh.out; omega, hck, fun l hl => by
                have q := HS.out.tr l hl
                rw [if_pos hl] at q
                rw [← HP1.out]
                exact q, hon⟩
          · have H91 := Lib.hid h91
            have H92 := Lib.hid h92
            have hnb4 : nb ≠ M + 4 := by omega
            clear h91 h92 HFS
            go_wp2
            obtain ⟨W9, hW9⟩ : ∃ W9, wr.setCell ⟨nb, 2, none⟩ (.pointer (some ⟨M + 3, 0, none⟩)) = W9 := ⟨_, rfl⟩
            have HROW : Hid (∀ b ∈ h :: ns.map (·.1), W9.rowIs b 106 35 (S9 b)) := by rw [← hW9]; exact hrow
            have HX9 : Hid (W9.rowIs (M + 3) 106 35 SX) := by rw [← hW9]; exact HS.out.xrow.setOther (by dsimp only; omega) _
            have HT9 : Hid (W9.rowIs M 125 32 ft) := by rw [← hW9]; exact HS.out.trow.setOther (by dsimp only; omega) _
            have HR9 : Hid (W9.rowIs (M + 2) 125 32 zf) := by rw [← hW9]; exact HS.out.rrow.setOther (by dsimp only; omega) _
            have HM9 : Hid (W9.rowIs (M + 1) 47 2 (fun j => if j = 0 then .string SM else .int .i64 MN)) := by rw [← hW9]; exact HS.out.mrow.setOther (by dsimp only; omega) _
            have HO9 : Hid (Only (fun b => b ∈ h :: ns.map (·.1) ∨ M ≤ b) W3 W9) := by rw [← hW9]; exact HS.out.only.set (q := ⟨nb, 2, none⟩) (Or.inl hnm) _
            have x9 : W9.cell? ⟨M + 4, 0, none⟩ = some (.pointer (some ⟨M + 3, 0, none⟩)) := by rw [← hW9]; exact (World.cell?_setCell_other wr _ _ _ (by simp)).trans a0
            rw [hW9]
            clear hrow hW9 a0 a3 hnc hnf hnb4
            have q2 : W9.cell? ⟨c, 2, none⟩ = some (.map (some mb)) := (World.cell?_of_block (a := ⟨c, 2, none⟩) (HO9.out.block c (by have := A7.out.blk.lt; omega) (by rintro (e | e); exact A7.out.nec e; have := HK.out.blk.lt; have := HMh.out; omega))).trans (A7.out.blk.cell (i := 2) (by omega))
            have q0 : W9.cell? ⟨M + 1, 0, none⟩ = some (.string SM) := HM9.out.cell (i := 0) (by omega)
            have hnm9 : NMap W9.drew mb N g sz := A7.out.mp.block (HO9.out.block mb A7.out.mp.lt (by rintro (e | e); exact A7.out.nem e; have := HK.out.mp.lt; have := HMh.out; omega))
            obtain ⟨W10, hrun, hnm10, ho10⟩ := nm_store hnm9 SM (by rw [← HSM.out]; have := HMM.out; simp [ByteArray.size]; omega) (by have := HNN.out; omega) (M + 3)
            have HRUN := hrun
            have HNM10 := Lib.hid hnm10
            have HO10 := Lib.hid ho10
            have HT10 : Hid (W10.rowIs M 125 32 ft) := ho10.row (a := W9.drew) HT9.out (fun e => by have := HK.out.mp.lt; have := HMh.out; omega)
            have HR10 : Hid (W10.rowIs (M + 2) 125 32 zf) := ho10.row (a := W9.drew) HR9.out (fun e => by have := HK.out.mp.lt; have := HMh.out; omega)
            have H1 : Hid (∀ l, l < 32 → (ft l).oneCell' = true) := fun l hl => by
              have q := HS.out.tr (l / 2) (by omega)
              rw [if_pos (by omega)] at q
              obtain ⟨k1, b1, _, _, q1, q2⟩ := q
              rcases (by omega : l = l / 2 * 2 ∨ l = l / 2 * 2 + 1) with e | e
              · rw [e, q1]; rfl
              · rw [e, q2]; rfl
            clear hrun hnm9 hnm10 ho10
            go_region
            all_goals
              go_wp2_with (first | (refine load_trail rfl (.tmp 4) rfl M rfl ft HT10.out ?_) | (refine store_trail rfl (.tmp 6) (.tmp 121) rfl (M + 2) rfl zf ft HR10.out rfl H1.out ?_))
              intro W11 hr11 ho11
              go_wp2
              have hbl : ∀ b, b < M → b ≠ mb → W11.heap[b]? = W9.heap[b]? := fun b h1 h2 => by
                have e1 := HO10.out.size
                have e2 : M + 3 ≤ W9.heap.size := HR9.out.lt
                have e3 : W9.drew.heap.size = W9.heap.size := rfl
                rw [ho11.block b (by omega) (by omega), HO10.out.block b (by omega) h2]
                rfl
              have hXm : M + 3 ≠ mb := by have := HK.out.mp.lt; have := HMh.out; omega
              have hX11 : W11.rowIs (M + 3) 106 35 SX := ho11.row (HO10.out.row (a := W9.drew) HX9.out hXm) (by omega)
              have hr9 : ∀ b ∈ h :: ns.map (·.1), W11.rowIs b 106 35 (S9 b) := fun b hb => (HROW.out b hb).of_block (hbl b (HLO.out b hb) (fun e => A7.out.nem (by rw [← e]; exact hb)))
              have hlay := HS.out.chain A7.out.ch HSM.out.symm HMN.out.symm HP.out hX hr9 hX11 H91.out H92.out
              have e93 : ∀ b, b < M → b ∉ h :: ns.map (·.1) → W9.heap[b]? = W3.heap[b]? := fun b h1 h2 => HO9.out.block b (by have := A6.out.2; omega) (by rintro (e | e); exact h2 e; omega)
              have hcM : c < M := by have := HK.out.blk.lt; have := HMh.out; omega
              have hgn : 0 ∉ h :: ns.map (·.1) := fun e => by have := A7.out.lon _ e; have := A7.out.bg; omega
              have eSM : SM.data.toList = m.1 := by rw [← HSM.out]
              have hck : CkOn W11 base seed c h mb (N + 1) lp (insAt ns k0 (M + 3, m)) (joinX S9 (M + 3) SX) (fun m' => if m' = m.1 then some (M + 3) else g m') sz' := by
                refine ⟨A7.out.blk.of_block ((hbl c hcM A7.out.necm).trans (e93 c hcM A7.out.nec)), hlay, ?_, A7.out.loc, A7.out.lom, fun b hb => ?_, A7.out.tz.block ((hbl _ (by have := A7.out.bg; have := A7.out.loc; omega) (fun e => by have := A7.out.bg; have := A7.out.lom; omega)).trans (e93 _ (by have := A7.out.bg; have := A7.out.loc; omega) hgn)), A7.out.bg, A7.out.sd⟩
                · have q := HNM10.out.block (ho11.block mb HNM10.out.lt (by have := HK.out.mp.lt; have := HMh.out; omega))
                  rw [eSM, HSZ'.out] at q
                  exact q
                · rcases (ins_mem _).1 hb with e | e
                  · rw [e]
                    have := A7.out.loc
                    dsimp only
                    omega
                  · exact A7.out.lon b e
              have hon : Only (CkF c h mb ns) w W11 := by
                have o1 : Only (fun b => b ∈ h :: ns.map (·.1) ∨ b = mb ∨ M ≤ b) w W3 := Only.of_below (by rw [HMh.out]; exact A6.out.1)
                have o2 : Only (fun b => b ∈ h :: ns.map (·.1) ∨ b = mb ∨ M ≤ b) W3 W9 := HO9.out.mono (fun b hb => by rcases hb with hb | hb; exact Or.inl hb; exact Or.inr (Or.inr hb))
                have o3 : Only (fun b => b ∈ h :: ns.map (·.1) ∨ b = mb ∨ M ≤ b) W9 W9.drew := ⟨rfl, rfl, rfl, Nat.le_refl _, fun _ _ _ => rfl⟩
                have o4 : Only (fun b => b ∈ h :: ns.map (·.1) ∨ b = mb ∨ M ≤ b) W9.drew W10 := HO10.out.mono (fun b hb => Or.inr (Or.inl hb))
                have o5 : Only (fun b => b ∈ h :: ns.map (·.1) ∨ b = mb ∨ M ≤ b) W10 W11 := ho11.mono (fun b hb => Or.inr (Or.inr (by omega)))
                refine ((((o1.trans o2).trans o3).trans o4).trans o5).mono' (fun b h1 h2 => ?_)
                rw [HMh.out] at h1
                rcases h2 with h2 | h2 | h2
                · exact Or.inr (Or.inr h2)
                · exact Or.inr (Or.inl h2)
                · omega
              exact bodyPost_ret (v := aggF 32 ft) (results_trail rfl _ _ (M + 2) rfl ft hr11) rfl ⟨ft, M + 3, joinX S9 (M + 3) SX, rfl, by have := HMh.out; omega, hck, fun l hl => by
                have q := HS.out.tr l hl
                rw [if_pos hl] at q
                rw [← HP1.out]
                exact q, hon⟩
  · have x0 := R5.out.cell (i := 0) (by omega)
    rw [show ytF (some ⟨M + 3, 0, none⟩) (p1 : Nat) 0 = .pointer (some ⟨M + 3, 0, none⟩) from rfl] at x0
    have x2 := R4.out.cell (i := 2) (by omega)
    have fx2 := R4.out.frozen 2
    have hrb := HK2.out.ch.row b0 HB0.out.mem
    have hrh := HK2.out.ch.row h (by simp)
    have n1 := neq_of_eql (eql_node_other (X := W2) hne hrb hrh)
    have n2 := neq_of_eql (eql_node_other (X := W2.drew) hne hrb hrh)
    have n3 := neq_of_eql (eql_node_other (X := W2.drew.drew) hne hrb hrh)
    simp only [Bool.not_false] at n1 n2 n3
    clear hrb hrh
    go_region
    all_goals
      go_wp2
      obtain ⟨W3, hW3⟩ : ∃ W3, (W2.setCell ⟨M + 3, 2, none⟩ (.pointer (some ⟨b0, 0, none⟩))).drew = W3 := ⟨_, rfl⟩
      rw [hW3]
      have A1 : Hid (W3.rowIs M 125 32 f) := by rw [← hW3]; exact World.rowIs.setOther (w := W2) R1.out (by dsimp only; omega) _
      have A2 : Hid (W3.rowIs (M + 1) 47 2 (sF SM MN)) := by rw [← hW3]; exact World.rowIs.setOther (w := W2) R2.out (by dsimp only; omega) _
      have A3 : Hid (W3.rowIs (M + 2) 125 32 zf) := by rw [← hW3]; exact World.rowIs.setOther (w := W2) R3.out (by dsimp only; omega) _
      have A4 : Hid (W3.rowIs (M + 3) 106 35 (xG SM MN (backOf ns k0))) := by
        rw [← hW3]
        refine (World.rowIs.set (w := W2) R4.out 2 _).congr (fun l _ => ?_)
        unfold xG
        split
        · rw [hbk]; rfl
        · rfl
      have A5 : Hid (W3.rowIs (M + 4) 123 2 (ytF (some ⟨M + 3, 0, none⟩) (p1 : Nat))) := by rw [← hW3]; exact World.rowIs.setOther (w := W2) R5.out (by dsimp only; omega) _
      have A6 : Hid (Below M w W3 ∧ W3.heap.size = M + 5) := by rw [← hW3]; exact ⟨(R6.out.setCell (by dsimp only; omega) _).drew, by show (W2.setCell _ _).heap.size = _; simp [R7.out]⟩
      have A7 : Hid (CkOn W3 base seed c h mb N lp ns S g sz) := HK.out.below (by rw [HMh.out]; exact A6.out.1)
      clear hW3 n1 n2 n3 hbk c0 c1 x0 x2 fx2 hne
      have HLV : Hid (∀ X : World, X.heap = W3.heap → Calls Tryd.prog 13 #[.int .u64 (seed : Nat), .string SM] X fun e w' => e = .returned (.int .i64 (lvS seed m : Nat)) ∧ w' = X) := fun X hX => by
        have q := level_any seed A7.out.sd SM X (by rw [← HSM.out]; have := HMM.out; simp [ByteArray.size]; omega) (A7.out.tz.block (by rw [hX]))
        have e : SM.data.toList = m.1 := by rw [← HSM.out]
        rw [e] at q
        exact q
      have c0 := A7.out.blk.cell (i := 0) (by omega)
      rw [show ckF seed h mb lp 0 = .int .u64 (seed : Nat) from rfl] at c0
      have y0 := A2.out.cell (i := 0) (by omega)
      rw [show sF SM MN 0 = .string SM from rfl] at y0
      obtain ⟨L, hL⟩ : ∃ L, lvS seed m = L := ⟨_, rfl⟩
      have HLL := Lib.hid hL
      rw [hL] at HLV
      clear hL
      apply by_oneW (F := fun W => W.heap = W3.heap ∧ W.os = W3.os ∧ W.tape = W3.tape ∧ W.output = W3.output)
      case h1 =>
        intro HFIN
        go_region_with (go_at_call 13; refine (HLV.out _ (by rfl)).mono ?_; rintro en w4 ⟨rfl, rfl⟩)
        all_goals
          generalize hW4 : World.drew _ = W4
          have hF : W4.heap = W3.heap ∧ W4.os = W3.os ∧ W4.tape = W3.tape ∧ W4.output = W3.output := by rw [← hW4]; exact ⟨rfl, rfl, rfl, rfl⟩
          exact HFIN.out W4 hF
      intro W4 hF4
      go_wp2
      have hl0 : ∀ b ∈ h :: ns.map (·.1), b < M := fun b hb => by have := HK.out.ch.lt hb; have := HMh.out; omega
      have HLO := Lib.hid hl0
      have HONE := Lib.hid HK.out.ch.one
      have HST : Hid (LSt W3 W4 (lvS seed) h ns k0 (M + 3) m M S SM MN (backOf ns k0) 0 S (xG SM MN (backOf ns k0)) f) := by
        unfold Hid
        refine LSt.same ?_ hF4.1 hF4.2.1 hF4.2.2.1 hF4.2.2.2
        exact ⟨A7.out.ch.row, LayInv.start A7.out.ch.way, fun _ _ _ => rfl, A4.out, rfl, rfl, rfl, A1.out, fun l hl => by rw [if_neg (by omega)]; exact HF.out l hl, A2.out, A3.out, (by rw [HP1.out]; exact A5.out), ⟨rfl, rfl, rfl, Nat.le_refl _, fun _ _ _ => rfl⟩⟩
      clear hF4 hl0 c0 y0
      go_loopw [43] (fun iv wr => ∃ (i : Nat) (S' : Nat → Nat → Value) (SX ft : Nat → Value), iv = .int .i64 i ∧ i ≤ 16 ∧ LSt W3 wr (lvS seed) h ns k0 (M + 3) m M S SM MN (backOf ns k0) i S' SX ft) (fun iv _ => 16 - (intOf iv).toNat)
      case atStart => exact ⟨0, S, _, f, rfl, by omega, HST.out⟩
      case round =>
        obtain ⟨i, S', SX, ft, rfl, hi, hst⟩ := hrel
        have HS := Lib.hid hst
        clear hst
        by_cases hlt : i < 16
        · obtain ⟨k, b, Tw, s, hb, ht, hbM, hbm, f0, f1, t0, t1⟩ := HS.out.at_ hlt HLO.out
          have HB := Lib.hid hb
          have HTR := Lib.hid ht
          have hil : (i : Int) < 16 := by omega
          have m0 := HS.out.trow.cell (i := i * 2) (by omega)
          have m1 := HS.out.trow.cell (i := i * 2 + 1) (by omega)
          have fm0 := HS.out.trow.frozen (i * 2)
          have fm1 := HS.out.trow.frozen (i * 2 + 1)
          rw [f0] at m0
          rw [f1] at m1
          have HF0 := Lib.hid f0
          have HF1 := Lib.hid f1
          have b1 := (HS.out.rows b hbm).cell (i := 3 + i * 2) (by omega)
          have b2 := (HS.out.rows b hbm).cell (i := 3 + i * 2 + 1) (by omega)
          have fb1 := (HS.out.rows b hbm).frozen (3 + i * 2)
          have fb2 := (HS.out.rows b hbm).frozen (3 + i * 2 + 1)
          rw [t0] at b1
          rw [t1] at b2
          have HT0 := Lib.hid t0
          have HT1 := Lib.hid t1
          obtain ⟨s1, hs1⟩ : ∃ s1, IntKind.i64.wrap (s + 1) = s1 := ⟨_, rfl⟩
          have HS1 := Lib.hid hs1
          have hbne : M ≠ b := by omega
          have hbne' : b ≠ M := by omega
          clear hb ht f0 f1 t0 t1 hbm
          by_cases hm : i < L
          · have hmi : (i : Int) < (L : Int) := by omega
            obtain ⟨W5, hW5⟩ : ∃ W5, wr.setCell ⟨b, 3 + i * 2 + 1, none⟩ (.int .i64 s1) = W5 := ⟨_, rfl⟩
            have hsz : W5.heap.size = wr.heap.size := by rw [← hW5]; simp
            have n0 : W5.cell? ⟨b, 3 + i * 2, none⟩ = some (.pointer Tw) := by rw [← hW5]; exact (World.cell?_setCell_other wr _ _ _ (by simp)).trans b1
            have n1 : W5.cell? ⟨b, 3 + i * 2 + 1, none⟩ = some (.int .i64 s1) := by
              rw [← hW5]
              have q := (rows_set HS.out.rows b (3 + i * 2 + 1) (.int .i64 s1) b HB.out.mem).cell (i := 3 + i * 2 + 1) (by omega)
              rw [upc_same] at q
              exact q
            obtain ⟨z1, hz1⟩ : ∃ z1, IntKind.i64.wrap ((k : Int) + s1) = z1 := ⟨_, rfl⟩
            have HNX := Lib.hid (next_any (pl := (k : Int)) W5 hlt n0 n1)
            rw [hz1] at HNX
            have HZ1 := Lib.hid hz1
            have HSZ := Lib.hid hsz
            have HW5 := Lib.hid hW5
            clear n0 n1 hz1 hsz hW5 hm
            go_wp2_with fail
            rw [HW5.out]
            refine HNX.out.mono ?_
            rintro en w6 ⟨rfl, hb6⟩
            have HB6 := Lib.hid hb6
            clear hb6
            go_wp2_with fail
            generalize hW7 : World.alloc _ _ = W7
            have rN : W7.rowIs w6.heap.size 123 2 (ytF Tw z1) := by rw [← hW7]; exact rows2 _ _ _ rfl rfl
            have HB7 : Hid (Below W5.heap.size W5 W7) := by
              unfold Hid
              rw [← hW7]
              exact HB6.out.alloc HB6.out.size _
            have e7 : ∀ Y, Y < wr.heap.size → Y ≠ b → W7.heap[Y]? = wr.heap[Y]? := fun Y h1 h2 => by
              rw [HB7.out.block Y (by rw [HSZ.out]; exact h1), ← HW5.out]
              exact Below.heap_setCell _ _ _ _ h2
            have hbl := (HS.out.rows b HB.out.mem).lt
            have eb : W7.heap[b]? = W5.heap[b]? := HB7.out.block b (by rw [HSZ.out]; exact hbl)
            have hxl := HS.out.srow.lt
            have rS := HS.out.srow.of_block (e7 (M + 4) (by omega) (by omega))
            have rX := HS.out.xrow.of_block (e7 (M + 3) (by omega) (by omega))
            have rM := HS.out.trow.of_block (e7 M (by omega) (by omega))
            have rB : W7.rowIs b 106 35 (upc S' b (3 + i * 2 + 1) (.int .i64 s1) b) := by
              have q := rows_set HS.out.rows b (3 + i * 2 + 1) (.int .i64 s1) b HB.out.mem
              rw [HW5.out] at q
              exact q.of_block eb
            have hNB : M + 5 ≤ w6.heap.size := by have := HB6.out.size; rw [HSZ.out] at this; omega
            obtain ⟨NB, hNBe⟩ : ∃ NB, w6.heap.size = NB := ⟨_, rfl⟩
            rw [hNBe] at rN hNB ⊢
            have a0 := rS.cell (i := 0) (by omega)
            have a1 := rS.cell (i := 1) (by omega)
            rw [HP1.out] at a1 a0
            rw [show ytF (some ⟨M + 3, 0, none⟩) (p1 : Nat) 0 = .pointer (some ⟨M + 3, 0, none⟩) from rfl] at a0
            rw [show ytF (some ⟨M + 3, 0, none⟩) (p1 : Nat) 1 = .int .i64 (p1 : Nat) from rfl] at a1
            have d0 := rN.cell (i := 0) (by omega)
            have d1 := rN.cell (i := 1) (by omega)
            rw [show ytF Tw z1 0 = .pointer Tw from rfl] at d0
            rw [show ytF Tw z1 1 = .int .i64 z1 from rfl] at d1
            have u0 := rX.cell (i := 3 + i * 2) (by omega)
            have u1 := rX.cell (i := 3 + i * 2 + 1) (by omega)
            have fu0 := rX.frozen (3 + i * 2)
            have fu1 := rX.frozen (3 + i * 2 + 1)
            have v0 := rB.cell (i := 3 + i * 2) (by omega)
            have v1 := rB.cell (i := 3 + i * 2 + 1) (by omega)
            have fv0 := rB.frozen (3 + i * 2)
            have fv1 := rB.frozen (3 + i * 2 + 1)
            have g0 := rM.cell (i := i * 2) (by omega)
            have g1 := rM.cell (i := i * 2 + 1) (by omega)
            have fg0 := rM.frozen (i * 2)
            have fg1 := rM.frozen (i * 2 + 1)
            rw [HF0.out] at g0
            rw [HF1.out] at g1
            obtain ⟨U0, hU0⟩ : ∃ u, SX (3 + i * 2) = u := ⟨_, rfl⟩
            obtain ⟨U1, hU1⟩ : ∃ u, SX (3 + i * 2 + 1) = u := ⟨_, rfl⟩
            obtain ⟨V0, hV0⟩ : ∃ u, upc S' b (3 + i * 2 + 1) (.int .i64 s1) b (3 + i * 2) = u := ⟨_, rfl⟩
            obtain ⟨V1, hV1⟩ : ∃ u, upc S' b (3 + i * 2 + 1) (.int .i64 s1) b (3 + i * 2 + 1) = u := ⟨_, rfl⟩
            rw [hU0] at u0
            rw [hU1] at u1
            rw [hV0] at v0
            rw [hV1] at v1
            obtain ⟨v2, hv2⟩ : ∃ v2, IntKind.i64.wrap (z1 - (p1 : Int)) = v2 := ⟨_, rfl⟩
            obtain ⟨v3, hv3⟩ : ∃ v3, IntKind.i64.wrap ((p1 : Int) - (k : Int)) = v3 := ⟨_, rfl⟩
            have HSB := Lib.hid (HS.out.stepB (w6 := W7) HONE.out hlt HP.out (by have := HN.out; omega) rfl HLO.out HB.out HTR.out HT0.out HT1.out (by rw [HLL.out]; omega) (by rw [HS1.out, HW5.out, ← HSZ.out]; exact HB7.out))
            rw [HS1.out, HZ1.out, HP1.out, hv2, hv3] at HSB
            have HV3 := Lib.hid hv3
            have RS := Lib.hid rS
            have RM := Lib.hid rM
            have RB := Lib.hid rB
            clear rN e7 eb rS rX rM rB hU0 hU1 hV0 hV1 hW7 hNBe m0 m1 fm0 fm1 b1 b2 fb1 fb2
            go_region
            all_goals
              go_wp2
              obtain ⟨W8, hW8⟩ : ∃ W8, ((W7.setCell ⟨M + 3, 3 + i * 2, none⟩ (.pointer Tw)).setCell ⟨M + 3, 3 + i * 2 + 1, none⟩ (.int .i64 v2)).drew = W8 := ⟨_, rfl⟩
              rw [hW8]
              have rS : W8.rowIs (M + 4) 123 2 (ytF (some ⟨M + 3, 0, none⟩) (p1 : Nat)) := by rw [← hW8, ← HP1.out]; exact (RS.out.setOther (by dsimp only; omega) _).setOther (by dsimp only; omega) _
              have rM : W8.rowIs M 125 32 ft := by rw [← hW8]; exact (RM.out.setOther (by dsimp only; omega) _).setOther (by dsimp only; omega) _
              have rB : W8.rowIs b 106 35 (upc S' b (3 + i * 2 + 1) (.int .i64 s1) b) := by rw [← hW8]; exact (RB.out.setOther (by dsimp only; omega) _).setOther (by dsimp only; omega) _
              clear a0 a1 d0 d1 u0 u1 fu0 fu1 v0 v1 fv0 fv1 g0 g1 fg0 fg1
              have a0 := rS.cell (i := 0) (by omega)
              have a1 := rS.cell (i := 1) (by omega)
              rw [show ytF (some ⟨M + 3, 0, none⟩) (p1 : Nat) 0 = .pointer (some ⟨M + 3, 0, none⟩) from rfl] at a0
              rw [show ytF (some ⟨M + 3, 0, none⟩) (p1 : Nat) 1 = .int .i64 (p1 : Nat) from rfl] at a1
              have v0 := rB.cell (i := 3 + i * 2) (by omega)
              have v1 := rB.cell (i := 3 + i * 2 + 1) (by omega)
              have fv0 := rB.frozen (3 + i * 2)
              have fv1 := rB.frozen (3 + i * 2 + 1)
              have g0 := rM.cell (i := i * 2) (by omega)
              have g1 := rM.cell (i := i * 2 + 1) (by omega)
              have fg0 := rM.frozen (i * 2)
              have fg1 := rM.frozen (i * 2 + 1)
              rw [HF0.out] at g0
              rw [HF1.out] at g1
              obtain ⟨V0', hV0'⟩ : ∃ u, upc S' b (3 + i * 2 + 1) (.int .i64 s1) b (3 + i * 2) = u := ⟨_, rfl⟩
              obtain ⟨V1', hV1'⟩ : ∃ u, upc S' b (3 + i * 2 + 1) (.int .i64 s1) b (3 + i * 2 + 1) = u := ⟨_, rfl⟩
              rw [hV0'] at v0
              rw [hV1'] at v1
              have HW8 := Lib.hid hW8
              clear rS rM rB hV0' hV1' hW8
              go_region
              all_goals
                go_wp2
                refine ⟨?_, by simp only [intOf]; omega⟩
                obtain ⟨S'', SX', ft', hS⟩ := HSB.out
                refine ⟨i + 1, S'', SX', ft', by go_num, by omega, ?_⟩
                rw [← HW8.out, setCell_drew, setCell_drew, setCell_drew, setCell_drew]
                exact hS.drew.drew
          · have hmi : ¬ (i : Int) < (L : Int) := by omega
            have HSA := Lib.hid (HS.out.stepA HONE.out hlt HP.out (by have := HN.out; omega) rfl HLO.out HB.out HTR.out HF0.out HF1.out HT1.out (by rw [HLL.out]; exact hm))
            rw [HS1.out] at HSA
            clear hm
            go_wp2
            go_roundw
            case rel =>
              obtain ⟨S'', hS⟩ := HSA.out
              exact ⟨i + 1, S'', SX, ft, by go_num, by omega, hS⟩
            case measure => simp only [intOf]; omega
        · obtain rfl : i = 16 := by omega
          have hX : M + 3 ∉ h :: ns.map (·.1) := fun e => by have := HLO.out _ e; omega
          have hMn : M ∉ h :: ns.map (·.1) := fun e => by have := HLO.out _ e; omega
          obtain ⟨Tw, s, t0, t1, t2⟩ := (HS.out.inv.2 0 (by omega) (lvS_pos _ _)).ex
          have hlw := low_way (lv := lvS seed) (ns := ns) (p := k0) (lvS_pos seed)
          have hfin : (Tw = none ∧ ∃ S9 : Nat → Nat → Value, (∀ b j, j ≠ 2 → S9 b j = S' b j) ∧ (∀ k x, ns[k]? = some x → S9 x.1 2 = if k = k0 then .pointer (some ⟨M + 3, 0, none⟩) else S' x.1 2) ∧ (∀ b ∈ h :: ns.map (·.1), wr.rowIs b 106 35 (S9 b))) ∨
              (∃ (nb : Nat) (u : Value) (S9 : Nat → Nat → Value), Tw = some ⟨nb, 0, none⟩ ∧ nb ∈ h :: ns.map (·.1) ∧ nb < M ∧ (∀ b j, j ≠ 2 → S9 b j = S' b j) ∧ (∀ k x, ns[k]? = some x → S9 x.1 2 = if k = k0 then .pointer (some ⟨M + 3, 0, none⟩) else S' x.1 2) ∧
                wr.cell? ⟨nb, 2, none⟩ = some u ∧ wr.frozen? ⟨nb, 2, none⟩ = false ∧ (∀ b ∈ h :: ns.map (·.1), (wr.setCell ⟨nb, 2, none⟩ (.pointer (some ⟨M + 3, 0, none⟩))).rowIs b 106 35 (S9 b))) := by
            by_cases hkl : k0 < ns.length
            · obtain ⟨x, hx, hw⟩ := hlw.1 hkl
              rw [hw] at t2
              rcases t2 with ⟨e, _⟩ | ⟨d, nb, e, e2, _⟩
              · cases e
              · simp only [Option.some.injEq, Prod.mk.injEq] at e
                obtain ⟨_, rfl⟩ := e
                have hm := (BlkAt.succ (h := h) hx).mem
                refine Or.inr ⟨x.1, _, upc S' x.1 2 (.pointer (some ⟨M + 3, 0, none⟩)), e2, hm, HLO.out _ hm, fun b j hj => upc_cell _ _ _ _ hj, fun k y hy => ?_, (HS.out.rows _ hm).cell (by omega), (HS.out.rows _ hm).frozen 2, rows_set HS.out.rows _ _ _⟩
                by_cases hk : k = k0
                · subst hk
                  rw [if_pos rfl]
                  rw [hx] at hy
                  injection hy with hy
                  rw [hy, upc_same]
                · rw [if_neg hk, upc_block]
                  intro e
                  have q1 := BlkAt.succ (h := h) hy
                  rw [e] at q1
                  have := BlkAt.inj HONE.out q1 (BlkAt.succ hx)
                  omega
            · rw [hlw.2 hkl] at t2
              rcases t2 with ⟨_, e⟩ | ⟨d, nb, e, _⟩
              · refine Or.inl ⟨e, S', fun _ _ _ => rfl, fun k x hx => ?_, HS.out.rows⟩
                have := (List.getElem?_eq_some_iff.1 hx).1
                rw [if_neg (by omega)]
              · cases e
          have a0 := HS.out.srow.cell (i := 0) (by omega)
          rw [show ytF (some ⟨M + 3, 0, none⟩) ((k0 + 1 : Nat) : Int) 0 = .pointer (some ⟨M + 3, 0, none⟩) from rfl] at a0
          have a3 := HS.out.xrow.cell (i := 3) (by omega)
          rw [show SX 3 = .pointer Tw from t0] at a3
          have HFS := Lib.hid hfin
          clear t0 t1 t2 hlw hfin
          rcases HFS.out with ⟨rfl, S9, h91, h92, hrow⟩ | ⟨nb, u, S9, rfl, hnm, hnM, h91, h92, hnc, hnf, hrow⟩
          · have H91 := Lib.hid h91
            have H92 := Lib.hid h92
            clear h91 h92 HFS
            go_wp2
            obtain ⟨W9, hW9⟩ : ∃ W9, wr = W9 := ⟨_, rfl⟩
            have HROW : Hid (∀ b ∈ h :: ns.map (·.1), W9.rowIs b 106 35 (S9 b)) := by rw [← hW9]; exact hrow
            have HX9 : Hid (W9.rowIs (M + 3) 106 35 SX) := by rw [← hW9]; exact HS.out.xrow
            have HT9 : Hid (W9.rowIs M 125 32 ft) := by rw [← hW9]; exact HS.out.trow
            have HR9 : Hid (W9.rowIs (M + 2) 125 32 zf) := by rw [← hW9]; exact HS.out.rrow
            have HM9 : Hid (W9.rowIs (M + 1) 47 2 (fun j => if j = 0 then .string SM else .int .i64 MN)) := by rw [← hW9]; exact HS.out.mrow
            have HO9 : Hid (Only (fun b => b ∈ h :: ns.map (·.1) ∨ M ≤ b) W3 W9) := by rw [← hW9]; exact HS.out.only
            have x9 : W9.cell? ⟨M + 4, 0, none⟩ = some (.pointer (some ⟨M + 3, 0, none⟩)) := by rw [← hW9]; exact a0
            rw [hW9]
            clear hrow hW9 a0 a3
            have q2 : W9.cell? ⟨c, 2, none⟩ = some (.map (some mb)) := (World.cell?_of_block (a := ⟨c, 2, none⟩) (HO9.out.block c (by have := A7.out.blk.lt; omega) (by rintro (e | e); exact A7.out.nec e; have := HK.out.blk.lt; have := HMh.out; omega))).trans (A7.out.blk.cell (i := 2) (by omega))
            have q0 : W9.cell? ⟨M + 1, 0, none⟩ = some (.string SM) := HM9.out.cell (i := 0) (by omega)
            have hnm9 : NMap W9.drew mb N g sz := A7.out.mp.block (HO9.out.block mb A7.out.mp.lt (by rintro (e | e); exact A7.out.nem e; have := HK.out.mp.lt; have := HMh.out; omega))
            obtain ⟨W10, hrun, hnm10, ho10⟩ := nm_store hnm9 SM (by rw [← HSM.out]; have := HMM.out; simp [ByteArray.size]; omega) (by have := HNN.out; omega) (M + 3)
            have HRUN := hrun
            have HNM10 := Lib.hid hnm10
            have HO10 := Lib.hid ho10
            have HT10 : Hid (W10.rowIs M 125 32 ft) := ho10.row (a := W9.drew) HT9.out (fun e => by have := HK.out.mp.lt; have := HMh.out; omega)
            have HR10 : Hid (W10.rowIs (M + 2) 125 32 zf) := ho10.row (a := W9.drew) HR9.out (fun e => by have := HK.out.mp.lt; have := HMh.out; omega)
            have H1 : Hid (∀ l, l < 32 → (ft l).oneCell' = true) := fun l hl => by
              have q := HS.out.tr (l / 2) (by omega)
              rw [if_pos (by omega)] at q
              obtain ⟨k1, b1, _, _, q1, q2⟩ := q
              rcases (by omega : l = l / 2 * 2 ∨ l = l / 2 * 2 + 1) with e | e
              · rw [e, q1]; rfl
              · rw [e, q2]; rfl
            clear hrun hnm9 hnm10 ho10
            go_region
            all_goals
              go_wp2_with (first | (refine load_trail rfl (.tmp 4) rfl M rfl ft HT10.out ?_) | (refine store_trail rfl (.tmp 6) (.tmp 121) rfl (M + 2) rfl zf ft HR10.out rfl H1.out ?_))
              intro W11 hr11 ho11
              go_wp2
              have hbl : ∀ b, b < M → b ≠ mb → W11.heap[b]? = W9.heap[b]? := fun b h1 h2 => by
                have e1 := HO10.out.size
                have e2 : M + 3 ≤ W9.heap.size := HR9.out.lt
                have e3 : W9.drew.heap.size = W9.heap.size := rfl
                rw [ho11.block b (by omega) (by omega), HO10.out.block b (by omega) h2]
                rfl
              have hXm : M + 3 ≠ mb := by have := HK.out.mp.lt; have := HMh.out; omega
              have hX11 : W11.rowIs (M + 3) 106 35 SX := ho11.row (HO10.out.row (a := W9.drew) HX9.out hXm) (by omega)
              have hr9 : ∀ b ∈ h :: ns.map (·.1), W11.rowIs b 106 35 (S9 b) := fun b hb => (HROW.out b hb).of_block (hbl b (HLO.out b hb) (fun e => A7.out.nem (by rw [← e]; exact hb)))
              have hlay := HS.out.chain A7.out.ch HSM.out.symm HMN.out.symm HP.out hX hr9 hX11 H91.out H92.out
              have e93 : ∀ b, b < M → b ∉ h :: ns.map (·.1) → W9.heap[b]? = W3.heap[b]? := fun b h1 h2 => HO9.out.block b (by have := A6.out.2; omega) (by rintro (e | e); exact h2 e; omega)
              have hcM : c < M := by have := HK.out.blk.lt; have := HMh.out; omega
              have hgn : 0 ∉ h :: ns.map (·.1) := fun e => by have := A7.out.lon _ e; have := A7.out.bg; omega
              have eSM : SM.data.toList = m.1 := by rw [← HSM.out]
              have hck : CkOn W11 base seed c h mb (N + 1) lp (insAt ns k0 (M + 3, m)) (joinX S9 (M + 3) SX) (fun m' => if m' = m.1 then some (M + 3) else g m') sz' := by
                refine ⟨A7.out.blk.of_block ((hbl c hcM A7.out.necm).trans (e93 c hcM A7.out.nec)), hlay, ?_, A7.out.loc, A7.out.lom, fun b hb => ?_, A7.out.tz.block ((hbl _ (by have := A7.out.bg; have := A7.out.loc; omega) (fun e => by have := A7.out.bg; have := A7.out.lom; omega)).trans (e93 _ (by have := A7.out.bg; have := A7.out.loc; omega) hgn)), A7.out.bg, A7.out.sd⟩
                · have q := HNM10.out.block (ho11.block mb HNM10.out.lt (by have := HK.out.mp.lt; have := HMh.out; omega))
                  rw [eSM, HSZ'.out] at q
                  exact q
                · rcases (ins_mem _).1 hb with e | e
                  · rw [e]
                    have := A7.out.loc
                    dsimp only
                    omega
                  · exact A7.out.lon b e
              have hon : Only (CkF c h mb ns) w W11 := by
                have o1 : Only (fun b => b ∈ h :: ns.map (·.1) ∨ b = mb ∨ M ≤ b) w W3 := Only.of_below (by rw [HMh.out]; exact A6.out.1)
                have o2 : Only (fun b => b ∈ h :: ns.map (·.1) ∨ b = mb ∨ M ≤ b) W3 W9 := HO9.out.mono (fun b hb => by rcases hb with hb | hb; exact Or.inl hb; exact Or.inr (Or.inr hb))
                have o3 : Only (fun b => b ∈ h :: ns.map (·.1) ∨ b = mb ∨ M ≤ b) W9 W9.drew := ⟨rfl, rfl, rfl, Nat.le_refl _, fun _ _ _ => rfl⟩
                have o4 : Only (fun b => b ∈ h :: ns.map (·.1) ∨ b = mb ∨ M ≤ b) W9.drew W10 := HO10.out.mono (fun b hb => Or.inr (Or.inl hb))
                have o5 : Only (fun b => b ∈ h :: ns.map (·.1) ∨ b = mb ∨ M ≤ b) W10 W11 := ho11.mono (fun b hb => Or.inr (Or.inr (by omega)))
                refine ((((o1.trans o2).trans o3).trans o4).trans o5).mono' (fun b h1 h2 => ?_)
                rw [HMh.out] at h1
                rcases h2 with h2 | h2 | h2
                · exact Or.inr (Or.inr h2)
                · exact Or.inr (Or.inl h2)
                · omega
              exact bodyPost_ret (v := aggF 32 ft) (results_trail rfl _ _ (M + 2) rfl ft hr11) rfl ⟨ft, M + 3, joinX S9 (M + 3) SX, rfl, by have := HMh.out; omega, hck, fun l hl => by
                have q := HS.out.tr l hl
                rw [if_pos hl] at q
                rw [← HP1.out]
                exact q, hon⟩
          · have H91 := Lib.hid h91
            have H92 := Lib.hid h92
            have hnb4 : nb ≠ M + 4 := by omega
            clear h91 h92 HFS
            go_wp2
            obtain ⟨W9, hW9⟩ : ∃ W9, wr.setCell ⟨nb, 2, none⟩ (.pointer (some ⟨M + 3, 0, none⟩)) = W9 := ⟨_, rfl⟩
            have HROW : Hid (∀ b ∈ h :: ns.map (·.1), W9.rowIs b 106 35 (S9 b)) := by rw [← hW9]; exact hrow
            have HX9 : Hid (W9.rowIs (M + 3) 106 35 SX) := by rw [← hW9]; exact HS.out.xrow.setOther (by dsimp only; omega) _
            have HT9 : Hid (W9.rowIs M 125 32 ft) := by rw [← hW9]; exact HS.out.trow.setOther (by dsimp only; omega) _
            have HR9 : Hid (W9.rowIs (M + 2) 125 32 zf) := by rw [← hW9]; exact HS.out.rrow.setOther (by dsimp only; omega) _
            have HM9 : Hid (W9.rowIs (M + 1) 47 2 (fun j => if j = 0 then .string SM else .int .i64 MN)) := by rw [← hW9]; exact HS.out.mrow.setOther (by dsimp only; omega) _
            have HO9 : Hid (Only (fun b => b ∈ h :: ns.map (·.1) ∨ M ≤ b) W3 W9) := by rw [← hW9]; exact HS.out.only.set (q := ⟨nb, 2, none⟩) (Or.inl hnm) _
            have x9 : W9.cell? ⟨M + 4, 0, none⟩ = some (.pointer (some ⟨M + 3, 0, none⟩)) := by rw [← hW9]; exact (World.cell?_setCell_other wr _ _ _ (by simp)).trans a0
            rw [hW9]
            clear hrow hW9 a0 a3 hnc hnf hnb4
            have q2 : W9.cell? ⟨c, 2, none⟩ = some (.map (some mb)) := (World.cell?_of_block (a := ⟨c, 2, none⟩) (HO9.out.block c (by have := A7.out.blk.lt; omega) (by rintro (e | e); exact A7.out.nec e; have := HK.out.blk.lt; have := HMh.out; omega))).trans (A7.out.blk.cell (i := 2) (by omega))
            have q0 : W9.cell? ⟨M + 1, 0, none⟩ = some (.string SM) := HM9.out.cell (i := 0) (by omega)
            have hnm9 : NMap W9.drew mb N g sz := A7.out.mp.block (HO9.out.block mb A7.out.mp.lt (by rintro (e | e); exact A7.out.nem e; have := HK.out.mp.lt; have := HMh.out; omega))
            obtain ⟨W10, hrun, hnm10, ho10⟩ := nm_store hnm9 SM (by rw [← HSM.out]; have := HMM.out; simp [ByteArray.size]; omega) (by have := HNN.out; omega) (M + 3)
            have HRUN := hrun
            have HNM10 := Lib.hid hnm10
            have HO10 := Lib.hid ho10
            have HT10 : Hid (W10.rowIs M 125 32 ft) := ho10.row (a := W9.drew) HT9.out (fun e => by have := HK.out.mp.lt; have := HMh.out; omega)
            have HR10 : Hid (W10.rowIs (M + 2) 125 32 zf) := ho10.row (a := W9.drew) HR9.out (fun e => by have := HK.out.mp.lt; have := HMh.out; omega)
            have H1 : Hid (∀ l, l < 32 → (ft l).oneCell' = true) := fun l hl => by
              have q := HS.out.tr (l / 2) (by omega)
              rw [if_pos (by omega)] at q
              obtain ⟨k1, b1, _, _, q1, q2⟩ := q
              rcases (by omega : l = l / 2 * 2 ∨ l = l / 2 * 2 + 1) with e | e
              · rw [e, q1]; rfl
              · rw [e, q2]; rfl
            clear hrun hnm9 hnm10 ho10
            go_region
            all_goals
              go_wp2_with (first | (refine load_trail rfl (.tmp 4) rfl M rfl ft HT10.out ?_) | (refine store_trail rfl (.tmp 6) (.tmp 121) rfl (M + 2) rfl zf ft HR10.out rfl H1.out ?_))
              intro W11 hr11 ho11
              go_wp2
              have hbl : ∀ b, b < M → b ≠ mb → W11.heap[b]? = W9.heap[b]? := fun b h1 h2 => by
                have e1 := HO10.out.size
                have e2 : M + 3 ≤ W9.heap.size := HR9.out.lt
                have e3 : W9.drew.heap.size = W9.heap.size := rfl
                rw [ho11.block b (by omega) (by omega), HO10.out.block b (by omega) h2]
                rfl
              have hXm : M + 3 ≠ mb := by have := HK.out.mp.lt; have := HMh.out; omega
              have hX11 : W11.rowIs (M + 3) 106 35 SX := ho11.row (HO10.out.row (a := W9.drew) HX9.out hXm) (by omega)
              have hr9 : ∀ b ∈ h :: ns.map (·.1), W11.rowIs b 106 35 (S9 b) := fun b hb => (HROW.out b hb).of_block (hbl b (HLO.out b hb) (fun e => A7.out.nem (by rw [← e]; exact hb)))
              have hlay := HS.out.chain A7.out.ch HSM.out.symm HMN.out.symm HP.out hX hr9 hX11 H91.out H92.out
              have e93 : ∀ b, b < M → b ∉ h :: ns.map (·.1) → W9.heap[b]? = W3.heap[b]? := fun b h1 h2 => HO9.out.block b (by have := A6.out.2; omega) (by rintro (e | e); exact h2 e; omega)
              have hcM : c < M := by have := HK.out.blk.lt; have := HMh.out; omega
              have hgn : 0 ∉ h :: ns.map (·.1) := fun e => by have := A7.out.lon _ e; have := A7.out.bg; omega
              have eSM : SM.data.toList = m.1 := by rw [← HSM.out]
              have hck : CkOn W11 base seed c h mb (N + 1) lp (insAt ns k0 (M + 3, m)) (joinX S9 (M + 3) SX) (fun m' => if m' = m.1 then some (M + 3) else g m') sz' := by
                refine ⟨A7.out.blk.of_block ((hbl c hcM A7.out.necm).trans (e93 c hcM A7.out.nec)), hlay, ?_, A7.out.loc, A7.out.lom, fun b hb => ?_, A7.out.tz.block ((hbl _ (by have := A7.out.bg; have := A7.out.loc; omega) (fun e => by have := A7.out.bg; have := A7.out.lom; omega)).trans (e93 _ (by have := A7.out.bg; have := A7.out.loc; omega) hgn)), A7.out.bg, A7.out.sd⟩
                · have q := HNM10.out.block (ho11.block mb HNM10.out.lt (by have := HK.out.mp.lt; have := HMh.out; omega))
                  rw [eSM, HSZ'.out] at q
                  exact q
                · rcases (ins_mem _).1 hb with e | e
                  · rw [e]
                    have := A7.out.loc
                    dsimp only
                    omega
                  · exact A7.out.lon b e
              have hon : Only (CkF c h mb ns) w W11 := by
                have o1 : Only (fun b => b ∈ h :: ns.map (·.1) ∨ b = mb ∨ M ≤ b) w W3 := Only.of_below (by rw [HMh.out]; exact A6.out.1)
                have o2 : Only (fun b => b ∈ h :: ns.map (·.1) ∨ b = mb ∨ M ≤ b) W3 W9 := HO9.out.mono (fun b hb => by rcases hb with hb | hb; exact Or.inl hb; exact Or.inr (Or.inr hb))
                have o3 : Only (fun b => b ∈ h :: ns.map (·.1) ∨ b = mb ∨ M ≤ b) W9 W9.drew := ⟨rfl, rfl, rfl, Nat.le_refl _, fun _ _ _ => rfl⟩
                have o4 : Only (fun b => b ∈ h :: ns.map (·.1) ∨ b = mb ∨ M ≤ b) W9.drew W10 := HO10.out.mono (fun b hb => Or.inr (Or.inl hb))
                have o5 : Only (fun b => b ∈ h :: ns.map (·.1) ∨ b = mb ∨ M ≤ b) W10 W11 := ho11.mono (fun b hb => Or.inr (Or.inr (by omega)))
                refine ((((o1.trans o2).trans o3).trans o4).trans o5).mono' (fun b h1 h2 => ?_)
                rw [HMh.out] at h1
                rcases h2 with h2 | h2 | h2
                · exact Or.inr (Or.inr h2)
                · exact Or.inr (Or.inl h2)
                · omega
              exact bodyPost_ret (v := aggF 32 ft) (results_trail rfl _ _ (M + 2) rfl ft hr11) rfl ⟨ft, M + 3, joinX S9 (M + 3) SX, rfl, by have := HMh.out; omega, hck, fun l hl => by
                have q := HS.out.tr l hl
                rw [if_pos hl] at q
                rw [← HP1.out]
                exact q, hon⟩

end Go.Proofs.YtcbiiioglklpoaaDoor
