/-
  Package skip's find: the trail of the nodes that are ahead. Conditions: what the closure answers at each node is handed in.
-/
import Derived.Test.YtcbiiioglklpoaaDoorSkM
namespace Go.Proofs.YtcbiiioglklpoaaDoor
open Go.RowKit

/-- What a closure answers of the nodes: the first p are ahead. -/
def AheadIs (FA : FuncId) (caps : Array Value) (w : World) (ns : List Nd) (p : Nat) : Prop :=
  ∀ (X : World) (k : Nat) (x : Nd), Below w.heap.size w X → ns[k]? = some x →
    Calls Tryd.prog FA (#[.agg #[.pointer (some ⟨x.1, 0, none⟩), .int .i64 ((k + 1 : Nat) : Int)]] ++ caps) X fun e X' => e = .returned (.bool (decide (k < p))) ∧ Below X.heap.size X X'

def stF (b k : Nat) (i : Nat) : Value := if i = 0 then .pointer (some ⟨b, 0, none⟩) else .int .i64 (k : Nat)

def kOf (w : World) (B : Nat) : Nat := match w.cell? ⟨B, 1, none⟩ with
  | some (.int _ k) => k.toNat
  | _ => 0

def zf (j : Nat) : Value := if j % 2 = 0 then .pointer none else .int .i64 0

theorem rowIs_alloc_map (w : World) (n : Nat) (f : Nat → Value) (t : TypeId) : (w.alloc (.cells ((List.range n).map f).toArray t)).rowIs w.heap.size t n f := by
  have := World.rowIs_alloc w ((List.range n).map f).toArray t f (fun i hi => by
    simp at hi
    simp [hi])
  simpa using this

theorem find_start (w : World) {M : Nat} (hM : w.heap.size = M) (h : Nat) (Z : Array Value) (hZ : Z = ((List.range 32).map zf).toArray) :
    (((w.alloc (.cells Z 125)).alloc (.cells Z 125)).alloc (.cells #[.pointer (some ⟨h, 0, none⟩), .int .i64 0] 123)).rowIs M 125 32 zf ∧
    (((w.alloc (.cells Z 125)).alloc (.cells Z 125)).alloc (.cells #[.pointer (some ⟨h, 0, none⟩), .int .i64 0] 123)).rowIs (M + 1) 125 32 zf ∧
    (((w.alloc (.cells Z 125)).alloc (.cells Z 125)).alloc (.cells #[.pointer (some ⟨h, 0, none⟩), .int .i64 0] 123)).rowIs (M + 2) 123 2 (stF h 0) ∧
    Below M w (((w.alloc (.cells Z 125)).alloc (.cells Z 125)).alloc (.cells #[.pointer (some ⟨h, 0, none⟩), .int .i64 0] 123)) := by
  subst hM hZ
  have h1 := rowIs_alloc_map w 32 zf 125
  have h2 := rowIs_alloc_map (w.alloc (.cells ((List.range 32).map zf).toArray 125)) 32 zf 125
  have h3 := World.rowIs_alloc ((w.alloc (.cells ((List.range 32).map zf).toArray 125)).alloc (.cells ((List.range 32).map zf).toArray 125)) #[.pointer (some ⟨h, 0, none⟩), .int .i64 0] 123 (stF h 0) (fun i hi => by
    have hi : i < 2 := hi
    rcases (by omega : i = 0 ∨ i = 1) with rfl | rfl <;> rfl)
  have s1 : (w.alloc (.cells ((List.range 32).map zf).toArray 125)).heap.size = w.heap.size + 1 := by simp
  have s2 : ((w.alloc (.cells ((List.range 32).map zf).toArray 125)).alloc (.cells ((List.range 32).map zf).toArray 125)).heap.size = w.heap.size + 2 := by simp
  rw [s1] at h2
  rw [s2] at h3
  exact ⟨(h1.alloc _).alloc _, h2.alloc _, h3, (((Below.refl _ _).alloc (Nat.le_refl _) _).alloc (by omega) _).alloc (by omega) _⟩

/-- Where a way leads: nowhere, or to a node d places further. -/
def WT (lv : Mb → Nat) (ns : List Nd) (i k : Nat) (T : Option Addr) (z : Int) : Prop :=
  (fstAt lv i (ns.drop k) = none ∧ T = none) ∨ ∃ (d : Nat) (x : Nd), fstAt lv i (ns.drop k) = some (d, x.1) ∧ 1 ≤ d ∧ ns[k + d - 1]? = some x ∧ i < lv x.2 ∧ T = some ⟨x.1, 0, none⟩ ∧ z = ((k + d : Nat) : Int)

theorem next_way {lv : Mb → Nat} {h : Nat} {ns : List Nd} {S : Nat → Nat → Value} {i k b : Nat} (w : World) (hch : ChOn lv w h ns S) (hn : ns.length ≤ 1000000) (hi : i < 16) (hb : BlkAt h ns k b) (ho : OnLv lv ns i k) :
    Calls Tryd.prog 93 #[.agg #[.pointer (some ⟨b, 0, none⟩), .int .i64 (k : Nat)], .int .i64 i] w fun e w' => (∃ T z, e = .returned (.agg #[.pointer T, .int .i64 z]) ∧ WT lv ns i k T z) ∧ Below w.heap.size w w' := by
  rcases hch.step hb ho hi with ⟨h1, h2, s, h3⟩ | ⟨d, x, h1, h2, h3, h4, h5, h6⟩
  · exact (next_any w hi h2 h3).mono fun e w' h => ⟨⟨_, _, h.1, Or.inl ⟨h1, rfl⟩⟩, h.2⟩
  · have hlt := (List.getElem?_eq_some_iff.1 h3).1
    exact (next_any w hi h5 h6).mono fun e w' h => ⟨⟨_, _, h.1, Or.inr ⟨d, x, h1, h2, h3, h4, rfl, by rw [IntWalk.i64_in _ (by omega)]; omega⟩⟩, h.2⟩

def ytF (T : Option Addr) (z : Int) (i : Nat) : Value := if i = 0 then .pointer T else .int .i64 z

theorem OnLv.down {lv : Mb → Nat} {ns : List Nd} {i j k : Nat} (h : OnLv lv ns j k) (hij : i ≤ j) : OnLv lv ns i k := by
  rcases h with h | ⟨x, h1, h2⟩
  · exact Or.inl h
  · exact Or.inr ⟨x, h1, by omega⟩

/-- A level's part of the trail is laid. -/
theorem trf_laid {lv : Mb → Nat} {h : Nat} {ns : List Nd} {p i k b M : Nat} {w : World} {f : Nat → Value} (hf : w.rowIs M 125 32 f) (ht : IsTr lv ns i p k) (hb : BlkAt h ns k b) (htr : ∀ l, i + 1 ≤ l → l < 16 → TrF lv h ns p f l) :
    ∃ f', ((w.setCell ⟨M, i * 2, none⟩ (.pointer (some ⟨b, 0, none⟩))).setCell ⟨M, i * 2 + 1, none⟩ (.int .i64 (k : Nat))).rowIs M 125 32 f' ∧ ∀ l, i ≤ l → l < 16 → TrF lv h ns p f' l := by
  refine ⟨_, (hf.set (i * 2) _).set (i * 2 + 1) _, fun l h1 h2 => ?_⟩
  rcases Nat.lt_or_ge i l with h3 | h3
  · obtain ⟨k1, b1, q1, q2, q3, q4⟩ := htr l h3 h2
    refine ⟨k1, b1, q1, q2, ?_, ?_⟩
    · dsimp only; rw [if_neg (by omega), if_neg (by omega)]; exact q3
    · dsimp only; rw [if_neg (by omega), if_neg (by omega)]; exact q4
  · obtain rfl : l = i := by omega
    exact ⟨k, b, hb, ht, by dsimp only; rw [if_neg (by omega), if_pos rfl], by dsimp only; rw [if_pos rfl]⟩

set_option maxRecDepth 100000 in
set_option maxHeartbeats 8000000 in
theorem find_any {lv : Mb → Nat} {FA : FuncId} {c h p : Nat} {ns : List Nd} {S : Nat → Nat → Value} {V : Value} (w : World)
    (eA : ∀ args w, (callFunc FA args).run Tryd.prog w = .ok (.enter FA args) w) (hA : AheadIs FA #[V] w ns p) (hp : p ≤ ns.length) (hn : ns.length ≤ 1000000)
    (hc : w.cell? ⟨c, 1, none⟩ = some (.pointer (some ⟨h, 0, none⟩))) (hch : ChOn lv w h ns S) :
    Calls Tryd.prog 70 #[.pointer (some ⟨c, 0, none⟩), .func (.func FA) #[] #[V]] w fun e w' => (∃ f, e = .returned (aggF 32 f) ∧ ∀ l, l < 16 → TrF lv h ns p f l) ∧ Below w.heap.size w w' := by
  have HA := Lib.hid hA
  have HCH := Lib.hid hch
  have HN := Lib.hid hn
  have HP := Lib.hid hp
  have hcl := World.block_lt_of_cell? w _ hc
  obtain ⟨M, hM⟩ : ∃ M, w.heap.size = M := ⟨_, rfl⟩
  rw [hM] at hcl ⊢
  have HM := Lib.hid hM
  clear hA hch hn hp
  go_enter Tryd.func70, Tryd.ntmps70
  go_wp2
  clear hM
  go_loopw [7] (fun iv wr => ∃ (j : Nat) (q : Int) (f g : Nat → Value) (k b : Nat), iv = .int .i64 q ∧ q + 1 = (j : Int) ∧ j ≤ 16 ∧ wr.rowIs M 125 32 g ∧ wr.rowIs (M + 1) 125 32 f ∧ (∀ l, j ≤ l → l < 16 → TrF lv h ns p f l) ∧
    wr.rowIs (M + 2) 123 2 (stF b k) ∧ BlkAt h ns k b ∧ k ≤ p ∧ OnLv lv ns j k ∧ Below M w wr) (fun iv _ => ((intOf iv) + 1).toNat)
  case atStart =>
    obtain ⟨q1, q2, q3, q4⟩ := find_start w HM.out h _ rfl
    exact ⟨16, 15, zf, zf, 0, h, rfl, rfl, Nat.le_refl _, q1, q2, fun l h1 h2 => by omega, q3, BlkAt.zero, Nat.zero_le _, Or.inl rfl, q4⟩
  case round =>
    obtain ⟨j, q, f, g, k, b, rfl, hq, hj, hg, hf, htr, hx, hb, hk, ho, hbw⟩ := hrel
    have HG := Lib.hid hg
    have HF := Lib.hid hf
    have HTR := Lib.hid htr
    have HX := Lib.hid hx
    have HB := Lib.hid hb
    have HO := Lib.hid ho
    have HBW := Lib.hid hbw
    clear hg hf htr hx hb ho hbw
    rcases j with _ | i
    · obtain rfl : q = -1 := by omega
      have h1 : ∀ l, l < 32 → (f l).oneCell' = true := fun l hl => by
        obtain ⟨k1, b1, _, _, q1, q2⟩ := HTR.out (l / 2) (Nat.zero_le _) (by omega)
        rcases (by omega : l = l / 2 * 2 ∨ l = l / 2 * 2 + 1) with e | e
        · rw [e, q1]; rfl
        · rw [e, q2]; rfl
      have H1 := Lib.hid h1
      clear h1
      go_wp2_with (first | (refine load_trail rfl (.tmp 5) rfl (M + 1) rfl f HF.out ?_) | (refine store_trail rfl (.tmp 4) (.tmp 37) rfl M rfl g f HG.out rfl H1.out ?_))
      intro w5 hr5 ho5
      go_wp2
      exact bodyPost_ret (v := aggF 32 f) (results_trail rfl _ _ M rfl f hr5) rfl ⟨⟨f, rfl, fun l hl => HTR.out l (Nat.zero_le _) hl⟩, HBW.out.trans (ho5.below (by have := HBW.out.size; rw [HM.out] at this; exact this) (fun l hl e => by omega))⟩
    · obtain rfl : q = (i : Int) := by omega
      have hi : i < 16 := by omega
      have HNX := Lib.hid (fun W hbe => next_way (k := k) (b := b) W (ChOn.below (w' := W) HCH.out (by rw [HM.out]; exact hbe)) HN.out hi HB.out (HO.out.down (by omega)))
      have e0 := HX.out.cell (i := 0) (by omega)
      have e1 := HX.out.cell (i := 1) (by omega)
      rw [show stF b k 0 = .pointer (some ⟨b, 0, none⟩) from rfl] at e0
      rw [show stF b k 1 = .int .i64 (k : Nat) from rfl] at e1
      go_wp2_with fail
      refine (HNX.out _ HBW.out).mono ?_
      rintro e w6 ⟨⟨T, z, rfl, hwt⟩, hb6⟩
      have HWT := Lib.hid hwt
      have HWS : Hid (M + 3 ≤ wr.heap.size) := HX.out.lt
      have HB6 := Lib.hid (HBW.out.trans (hb6.mono (by have := HWS.out; omega)))
      have HG6 := Lib.hid (HG.out.of_block (hb6.block M (by have := HWS.out; omega)))
      have HF6 := Lib.hid (HF.out.of_block (hb6.block (M + 1) (by have := HWS.out; omega)))
      have HX6 := Lib.hid (HX.out.of_block (hb6.block (M + 2) (by have := HWS.out; omega)))
      have HS6 : Hid (M + 3 ≤ w6.heap.size) := Nat.le_trans HWS.out hb6.size
      clear hb6 hwt e0 e1
      go_wp2
      go_loopw [8] (fun yv wr => ∃ (Y k b : Nat) (T : Option Addr) (z : Int), yv = .pointer (some ⟨Y, 0, none⟩) ∧ M + 3 ≤ Y ∧ wr.rowIs Y 123 2 (ytF T z) ∧ WT lv ns i k T z ∧ wr.rowIs M 125 32 g ∧ wr.rowIs (M + 1) 125 32 f ∧
        wr.rowIs (M + 2) 123 2 (stF b k) ∧ BlkAt h ns k b ∧ k ≤ p ∧ OnLv lv ns i k ∧ Below M w wr) (fun _ wr => p - kOf wr (M + 2))
      case atStart =>
        refine ⟨w6.heap.size, k, b, T, z, rfl, HS6.out, ?_, HWT.out, HG6.out.alloc _, HF6.out.alloc _, HX6.out.alloc _, HB.out, hk, HO.out.down (by omega), HB6.out.alloc (by have := HS6.out; omega) _⟩
        exact World.rowIs_alloc w6 #[.pointer T, .int .i64 z] 123 (ytF T z) (fun i hi => by
          have hi : i < 2 := hi
          rcases (by omega : i = 0 ∨ i = 1) with rfl | rfl <;> rfl)
      case round =>
        obtain ⟨Y, k1, b1, T1, z1, rfl, hY, hy, hwt, hg, hf, hx, hb, hk1, ho, hbw⟩ := hrel
        have HG1 := Lib.hid hg
        have HF1 := Lib.hid hf
        have HX1 := Lib.hid hx
        have HB1 := Lib.hid hb
        have HO1 := Lib.hid ho
        have HBW1 := Lib.hid hbw
        have HY1 := Lib.hid hy
        have HYl := Lib.hid hy.lt
        have y0 := hy.cell (i := 0) (by omega)
        have y1 := hy.cell (i := 1) (by omega)
        rw [show ytF T1 z1 0 = .pointer T1 from rfl] at y0
        rw [show ytF T1 z1 1 = .int .i64 z1 from rfl] at y1
        have x0 := hx.cell (i := 0) (by omega)
        have x1 := hx.cell (i := 1) (by omega)
        rw [show stF b1 k1 0 = .pointer (some ⟨b1, 0, none⟩) from rfl] at x0
        rw [show stF b1 k1 1 = .int .i64 (k1 : Nat) from rfl] at x1
        clear hg hf hx hb ho hbw hy
        rcases hwt with ⟨hw1, rfl⟩ | ⟨d, x, hw1, hw2, hw3, hw4, rfl, rfl⟩
        · have HT : Hid (IsTr lv ns i p k1) := IsTr.of_way hk1 HO1.out (fun d b e => by rw [hw1] at e; cases e)
          have et := HF1.out.cell (i := i * 2) (by omega)
          have et1 := HF1.out.cell (i := i * 2 + 1) (by omega)
          have ef := HF1.out.frozen (i * 2)
          have ef1 := HF1.out.frozen (i * 2 + 1)
          obtain ⟨u0, hu0⟩ : ∃ u, f (i * 2) = u := ⟨_, rfl⟩
          obtain ⟨u1, hu1⟩ : ∃ u, f (i * 2 + 1) = u := ⟨_, rfl⟩
          rw [hu0] at et
          rw [hu1] at et1
          clear hu0 hu1 hw1
          go_wp2
          obtain ⟨f', q1, q2⟩ := trf_laid HF1.out HT.out HB1.out HTR.out
          refine ⟨⟨i, (i : Int) - 1, f', g, k1, b1, rfl, by omega, by omega, (HG1.out.setOther (by simp) _).setOther (by simp) _, q1, q2, (HX1.out.setOther (by simp) _).setOther (by simp) _, HB1.out, hk1, HO1.out, (HBW1.out.setCell (by simp) _).setCell (by simp) _⟩, by simp only [intOf]; omega⟩
        · obtain ⟨kk, hkk⟩ : ∃ kk, k1 + d = kk + 1 := ⟨k1 + d - 1, by omega⟩
          have HW1 := Lib.hid hw1
          have HW4 := Lib.hid hw4
          rw [show k1 + d - 1 = kk from by omega] at hw3
          have HW3 := Lib.hid hw3
          rw [hkk] at y1 HY1
          have HAC : Hid (∀ X, Below wr.heap.size wr X → Calls Tryd.prog FA #[.agg #[.pointer (some ⟨x.1, 0, none⟩), .int .i64 ((kk + 1 : Nat) : Int)], V] X fun e X' => e = .returned (.bool (decide (kk < p))) ∧ Below X.heap.size X X') := fun X hX => by
            have q := HA.out X kk x (by rw [HM.out]; exact HBW1.out.trans (hX.mono (by have := HBW1.out.size; rw [HM.out] at this; exact this))) HW3.out
            simpa using q
          have HKK := Lib.hid hkk
          have HW2 := Lib.hid hw2
          clear hw1 hw3 hw4 hkk hw2
          go_wp2_with fail
          refine (HAC.out _ (Below.refl _ _)).mono ?_
          rintro e w7 ⟨rfl, hb7⟩
          have HWS7 : Hid (wr.heap.size ≤ w7.heap.size) := hb7.size
          have HS7 : Hid (M + 3 ≤ wr.heap.size) := HX1.out.lt
          have HG7 := Lib.hid (HG1.out.of_block (hb7.block M (by have := HS7.out; omega)))
          have HF7 := Lib.hid (HF1.out.of_block (hb7.block (M + 1) (by have := HS7.out; omega)))
          have HX7 := Lib.hid (HX1.out.of_block (hb7.block (M + 2) (by have := HS7.out; omega)))
          have HY7 := Lib.hid (HY1.out.of_block (hb7.block Y HYl.out))
          have HB7 := Lib.hid (HBW1.out.trans (hb7.mono (by have := HS7.out; omega)))
          clear hb7 y0 y1 x0 x1
          have y0 := HY7.out.cell (i := 0) (by omega)
          have y1 := HY7.out.cell (i := 1) (by omega)
          rw [show ytF (some ⟨x.1, 0, none⟩) ((kk + 1 : Nat) : Int) 0 = .pointer (some ⟨x.1, 0, none⟩) from rfl] at y0
          rw [show ytF (some ⟨x.1, 0, none⟩) ((kk + 1 : Nat) : Int) 1 = .int .i64 ((kk + 1 : Nat) : Int) from rfl] at y1
          have x0 := HX7.out.cell (i := 0) (by omega)
          have x1 := HX7.out.cell (i := 1) (by omega)
          rw [show stF b1 k1 0 = .pointer (some ⟨b1, 0, none⟩) from rfl] at x0
          rw [show stF b1 k1 1 = .int .i64 (k1 : Nat) from rfl] at x1
          by_cases hlt : kk < p
          · have hdec : decide (kk < p) = true := by simpa using hlt
            have fx0 := HX7.out.frozen 0
            have fx1 := HX7.out.frozen 1
            have HBK : Hid (BlkAt h ns (kk + 1) x.1) := BlkAt.succ HW3.out
            have HOK : Hid (OnLv lv ns i (kk + 1)) := Or.inr ⟨x, HW3.out, HW4.out⟩
            have hMs : M + 1 + 1 < w7.heap.size := by have := HS7.out; have := HWS7.out; omega
            rw [hdec]
            go_wp2_with fail
            obtain ⟨w8, hw8⟩ : ∃ w8, ((w7.setCell ⟨M + 1 + 1, 0, none⟩ (.pointer (some ⟨x.1, 0, none⟩))).setCell ⟨M + 1 + 1, 1, none⟩ (.int .i64 ((kk : Int) + 1))).alloc (.cells #[.pointer (some ⟨x.1, 0, none⟩), .int .i64 ((kk : Int) + 1)] 123) = w8 := ⟨_, rfl⟩
            rw [hw8]
            have HX8 : Hid (w8.rowIs (M + 2) 123 2 (stF x.1 (kk + 1))) := by
              unfold Hid
              rw [← hw8]
              refine (((HX7.out.set 0 _).set 1 _).congr (fun l hl => ?_)).alloc _
              rcases (by omega : l = 0 ∨ l = 1) with rfl | rfl <;> rfl
            have HY8 : Hid (w8.rowIs w7.heap.size 123 2 (ytF (some ⟨x.1, 0, none⟩) ((kk : Int) + 1))) := by
              unfold Hid
              rw [← hw8]
              have q := World.rowIs_alloc ((w7.setCell ⟨M + 1 + 1, 0, none⟩ (.pointer (some ⟨x.1, 0, none⟩))).setCell ⟨M + 1 + 1, 1, none⟩ (.int .i64 ((kk : Int) + 1))) #[.pointer (some ⟨x.1, 0, none⟩), .int .i64 ((kk : Int) + 1)] 123 (ytF (some ⟨x.1, 0, none⟩) ((kk : Int) + 1)) (fun l hl => by
                have hl : l < 2 := hl
                rcases (by omega : l = 0 ∨ l = 1) with rfl | rfl <;> rfl)
              have e : ((w7.setCell ⟨M + 1 + 1, 0, none⟩ (.pointer (some ⟨x.1, 0, none⟩))).setCell ⟨M + 1 + 1, 1, none⟩ (.int .i64 ((kk : Int) + 1))).heap.size = w7.heap.size := by simp
              rw [e] at q
              exact q
            have HG8 : Hid (w8.rowIs M 125 32 g) := by unfold Hid; rw [← hw8]; exact ((HG7.out.setOther (by dsimp only; omega) _).setOther (by dsimp only; omega) _).alloc _
            have HF8 : Hid (w8.rowIs (M + 1) 125 32 f) := by unfold Hid; rw [← hw8]; exact ((HF7.out.setOther (by dsimp only; omega) _).setOther (by dsimp only; omega) _).alloc _
            have HB8 : Hid (Below M w w8) := by
              unfold Hid
              rw [← hw8]
              exact ((HB7.out.setCell (by dsimp only; omega) _).setCell (by dsimp only; omega) _).alloc (by simp; omega) _
            have HNX8 := Lib.hid (next_way (k := kk + 1) (b := x.1) w8 (ChOn.below (w' := w8) HCH.out (by rw [HM.out]; exact HB8.out)) HN.out hi HBK.out HOK.out)
            have HS8 : Hid (w7.heap.size < w8.heap.size) := HY8.out.lt
            clear hw8
            refine (HNX8.out).mono ?_
            rintro e w9 ⟨⟨T9, z9, rfl, hwt9⟩, hb9⟩
            have HWT9 := Lib.hid hwt9
            have HG9 := Lib.hid (HG8.out.of_block (hb9.block M (by have := HS8.out; omega)))
            have HF9 := Lib.hid (HF8.out.of_block (hb9.block (M + 1) (by have := HS8.out; omega)))
            have HX9 := Lib.hid (HX8.out.of_block (hb9.block (M + 2) (by have := HS8.out; omega)))
            have HY9 := Lib.hid (HY8.out.of_block (hb9.block w7.heap.size HS8.out))
            have HB9 := Lib.hid (HB8.out.trans (hb9.mono (by have := HS8.out; omega)))
            clear hb9 hwt9 x0 x1 y0 y1 fx0 fx1
            obtain ⟨Y8, hY8⟩ : ∃ y, w7.heap.size = y := ⟨_, rfl⟩
            have HYg : Hid (M + 3 ≤ Y8) := by unfold Hid; omega
            rw [hY8] at HY9 ⊢
            have y0 := HY9.out.cell (i := 0) (by omega)
            have y1 := HY9.out.cell (i := 1) (by omega)
            have fy0 := HY9.out.frozen 0
            have fy1 := HY9.out.frozen 1
            rw [show ytF (some ⟨x.1, 0, none⟩) ((kk : Int) + 1) 0 = .pointer (some ⟨x.1, 0, none⟩) from rfl] at y0
            rw [show ytF (some ⟨x.1, 0, none⟩) ((kk : Int) + 1) 1 = .int .i64 ((kk : Int) + 1) from rfl] at y1
            clear hY8 hMs
            go_wp2
            go_roundw
            case rel =>
              refine ⟨Y8, kk + 1, x.1, T9, z9, rfl, HYg.out, ((HY9.out.set 0 _).set 1 _).congr (fun l hl => ?_), HWT9.out, (HG9.out.setOther (by have := HYg.out; dsimp only; omega) _).setOther (by have := HYg.out; dsimp only; omega) _, (HF9.out.setOther (by have := HYg.out; dsimp only; omega) _).setOther (by have := HYg.out; dsimp only; omega) _, (HX9.out.setOther (by have := HYg.out; dsimp only; omega) _).setOther (by have := HYg.out; dsimp only; omega) _, HBK.out, by omega, HOK.out, (HB9.out.setCell (by have := HYg.out; dsimp only; omega) _).setCell (by have := HYg.out; dsimp only; omega) _⟩
              rcases (by omega : l = 0 ∨ l = 1) with rfl | rfl <;> rfl
            case measure =>
              have a1 : kOf wr (M + 2) = k1 := by unfold kOf; rw [HX1.out.cell (i := 1) (by omega)]; rfl
              have a2 : kOf ((w9.setCell ⟨Y8, 0, none⟩ (.pointer T9)).setCell ⟨Y8, 1, none⟩ (.int .i64 z9)) (M + 2) = kk + 1 := by
                unfold kOf
                rw [((HX9.out.setOther (a := ⟨Y8, 0, none⟩) (by have := HYg.out; dsimp only; omega) (.pointer T9)).setOther (a := ⟨Y8, 1, none⟩) (by have := HYg.out; dsimp only; omega) (.int .i64 z9)).cell (i := 1) (by omega)]
                rfl
              rw [a1, a2]
              have := HKK.out
              have := HW2.out
              omega
          · have hdec : decide (kk < p) = false := by simpa using hlt
            have HT : Hid (IsTr lv ns i p k1) := IsTr.of_way hk1 HO1.out (fun d' b' e => by
              rw [HW1.out] at e
              injection e with e
              injection e with e1 e2
              have := HKK.out
              omega)
            have et := HF7.out.cell (i := i * 2) (by omega)
            have et1 := HF7.out.cell (i := i * 2 + 1) (by omega)
            have ef := HF7.out.frozen (i * 2)
            have ef1 := HF7.out.frozen (i * 2 + 1)
            obtain ⟨u0, hu0⟩ : ∃ u, f (i * 2) = u := ⟨_, rfl⟩
            obtain ⟨u1, hu1⟩ : ∃ u, f (i * 2 + 1) = u := ⟨_, rfl⟩
            rw [hu0] at et
            rw [hu1] at et1
            clear hu0 hu1
            rw [hdec]
            go_wp2
            obtain ⟨f', q1, q2⟩ := trf_laid HF7.out HT.out HB1.out HTR.out
            refine ⟨⟨i, (i : Int) - 1, f', g, k1, b1, rfl, by omega, by omega, (HG7.out.setOther (by simp) _).setOther (by simp) _, q1, q2, (HX7.out.setOther (by simp) _).setOther (by simp) _, HB1.out, hk1, HO1.out, (HB7.out.setCell (by simp) _).setCell (by simp) _⟩, by simp only [intOf]; omega⟩

end Go.Proofs.YtcbiiioglklpoaaDoor
