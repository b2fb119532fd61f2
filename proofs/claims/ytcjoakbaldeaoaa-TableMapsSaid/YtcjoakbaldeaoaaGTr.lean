/-
  Package table (values: int): the walk of Pick. Conditions: the table lies in memory as it reads, and keeps what tables keep.
-/
import Derived.Test.YtcjoakbaldeaoaaGTqI
import Derived.Test.YtcjoakbaldeaoaaTbC
import Derived.Test.YtcjoakbaldeaoaaTbK
import Derived.Test.YtcjoakbaldeaoaaTrE
import Derived.Test.YtcjoakbaldeaoaaTbR
import Derived.Deep.RegionHeld3
namespace Go.Proofs.Ytcjoakbaldeaoaa
open Go.RowKit Go.Shelf

attribute [local go_sem] Oper.semAt_some

def flatI {w : World} {base : Nat} (pre : List (BkI w base)) : List (List UInt8 × Int) := (pre.map (·.1.2)).flatten

set_option maxRecDepth 100000 in
set_option maxHeartbeats 16000000 in
theorem pickI_any {base Q seed m : Nat} {ow : Own} {t : Tb Int} {gA gB : Nat} {sA sB : Nat → Value} (draw : Nat) (hd : draw < 18446744073709551616) (w : World) (h : PT KI w base ow Q 67 seed t gA sA gB sB) (hg : Good (hashT seed) m t) (hm : m ≤ 50000) (hks : KeysT (fun k => k.length ≤ 1000) t) :
    Calls Try.prog 37 #[.pointer (some ⟨Q, 0, none⟩), .int .u64 draw] w fun e w' => e = .returned (match pickT t draw with | some y => .tuple #[.string ⟨y.1.toArray⟩, .int .i64 y.2, .bool true] | none => .tuple #[.string ⟨#[]⟩, .int .i64 0, .bool false]) ∧ Below w.heap.size w w' := by
  have hpos := hg.kept.pos
  have hA := hg.a
  have hB := hg.b
  have hn := hg.n
  have c0 : w.cell? ⟨Q, 0, none⟩ = some (.pointer (some ⟨Q, 0, none⟩)) := h.hd.cell (by omega)
  have c2 : w.cell? ⟨Q, 2, none⟩ = some (.int .i64 t.n) := h.hd.cell (by omega)
  have hQ : Q < w.heap.size := World.block_lt_of_cell? w _ c0
  have HLEN := Lib.hid (fun (W : World) (hW : Below w.heap.size w W) => lenI_any W (h.below' hW))
  have HLN := Lib.hid (all_length hg.cnt)
  have HP := Lib.hid h
  obtain ⟨tn, htn⟩ : ∃ n, t.n = n := ⟨_, rfl⟩
  have HTN := Lib.hid htn
  rw [htn] at c2 HLEN HLN hn
  by_cases hz : tn = 0
  · subst hz
    have HPK : Hid (pickT t draw = none) := by unfold Hid pickT; rw [if_pos HTN.out]
    rw [HPK.out]
    clear h hg hks htn hpos hA hB
    go_enter Try.func37, Try.ntmps37
    go_wp2_with fail
    obtain ⟨wz, hwz⟩ : ∃ wz, ((w.alloc (.cells #[.string ⟨#[]⟩] 9)).alloc (.cells #[.int .i64 0] 3)).alloc (.cells #[.bool false] 4) = wz := ⟨_, rfl⟩
    have hbz : Below w.heap.size w wz := by rw [← hwz]; exact (((Below.refl w.heap.size w).alloc (Nat.le_refl _) _).alloc (by simp) _).alloc (by simp; omega) _
    have hb4 : Boxed wz w.heap.size 9 (.string ⟨#[]⟩) := by rw [← hwz]; exact ((Boxed.new w _ _).alloc _).alloc _
    have hb5 : Boxed wz (w.heap.size + 1) 3 (.int .i64 0) := by rw [← hwz]; have q := (Boxed.new (w.alloc (.cells #[.string ⟨#[]⟩] 9)) 3 (.int .i64 0)).alloc (.cells #[.bool false] 4); rw [World.size_alloc] at q; exact q
    have hb6 : Boxed wz (w.heap.size + 2) 4 (.bool false) := by rw [← hwz]; have q := Boxed.new ((w.alloc (.cells #[.string ⟨#[]⟩] 9)).alloc (.cells #[.int .i64 0] 3)) 4 (.bool false); rw [World.size_alloc, World.size_alloc] at q; exact q
    rw [hwz]
    have hsz : wz.heap.size = w.heap.size + 3 := by rw [← hwz]; simp
    clear hwz
    refine (HLEN.out _ hbz).mono ?_
    rintro e w1 ⟨rfl, hb1⟩
    have d4 := hb4.kept (row := none) ⟨hb1.os, hb1.tape, hb1.output, hb1.size, fun k hk _ => hb1.block k hk⟩ (by simp)
    have d5 := hb5.kept (row := none) ⟨hb1.os, hb1.tape, hb1.output, hb1.size, fun k hk _ => hb1.block k hk⟩ (by simp)
    have d6 := hb6.kept (row := none) ⟨hb1.os, hb1.tape, hb1.output, hb1.size, fun k hk _ => hb1.block k hk⟩ (by simp)
    have e4 := d4.cell
    have e5 := d5.cell
    have e6 := d6.cell
    have f4 := d4.frozen
    have f5 := d5.frozen
    have f6 := d6.frozen
    have HBZ := Lib.hid (hbz.trans (hb1.mono hbz.size))
    have HD4 := Lib.hid d4
    have HD5 := Lib.hid d5
    have HD6 := Lib.hid d6
    have HQW : Hid (w.heap.size ≤ wz.heap.size) := hbz.size
    clear hb1 hb4 hb5 hb6 hsz hbz d4 d5 d6
    go_wp2
    have g4 := (((HD4.out.set (.string ⟨#[]⟩)).other (B' := w.heap.size + 1) (by omega) (.int .i64 0)).other (B' := w.heap.size + 2) (by omega) (.bool false)).cell
    have g5 := (((HD5.out.other (B' := w.heap.size) (by omega) (.string ⟨#[]⟩)).set (.int .i64 0)).other (B' := w.heap.size + 2) (by omega) (.bool false)).cell
    have g6 := (((HD6.out.other (B' := w.heap.size) (by omega) (.string ⟨#[]⟩)).other (B' := w.heap.size + 1) (by omega) (.int .i64 0)).set (.bool false)).cell
    have hbf := ((HBZ.out.setCell (p := ⟨w.heap.size, 0, none⟩) (Nat.le_refl _) (.string ⟨#[]⟩)).setCell (p := ⟨w.heap.size + 1, 0, none⟩) (by show w.heap.size ≤ w.heap.size + 1; omega) (.int .i64 0)).setCell (p := ⟨w.heap.size + 2, 0, none⟩) (by show w.heap.size ≤ w.heap.size + 2; omega) (.bool false)
    obtain ⟨wf, hwf⟩ : ∃ wf, (((w1.setCell ⟨w.heap.size, 0, none⟩ (.string ⟨#[]⟩)).setCell ⟨w.heap.size + 1, 0, none⟩ (.int .i64 0)).setCell ⟨w.heap.size + 2, 0, none⟩ (.bool false)) = wf := ⟨_, rfl⟩
    rw [show w.heap.size + 1 + 1 = w.heap.size + 2 from rfl, hwf]
    rw [hwf] at g4 g5 g6 hbf
    exact bodyPost_ret (v := .tuple #[.string ⟨#[]⟩, .int .i64 0, .bool false]) (by simp [results, Try.results37, go_sem, g4, g5, g6]) rfl ⟨rfl, hbf⟩
  · have hz1 : 0 < tn := by omega
    have hix : draw % tn < tn := Nat.mod_lt _ hz1
    have hw1 : IntKind.u64.wrap (tn : Int) = (tn : Int) := by rw [IntKind.wrap_u64]; omega
    have hne : ¬ (tn : Int) = 0 := by omega
    have hgt : (0 : Int) < (tn : Int) := by omega
    have HPK : Hid (pickT t draw = (allT t)[draw % tn]?) := by unfold Hid pickT; rw [HTN.out, if_neg (by omega)]
    obtain ⟨ix, hixe⟩ : ∃ i, draw % tn = i := ⟨_, rfl⟩
    have hrem : (draw : Int) % (tn : Int) = (ix : Int) := by omega
    have hw2 : IntKind.i64.wrap (ix : Int) = (ix : Int) := IntWalk.i64_in _ (by omega)
    rw [hixe] at hix HPK
    obtain ⟨XA, ha1, ha2⟩ := bksI h.a (fun i l hl => by have := hg.bktA hl; omega) hks.1
    obtain ⟨XB, hb1, hb2⟩ := bksI h.b (fun i l hl => by have := hg.bktB hl; omega) hks.2
    have HXS : Hid ((XA ++ XB).map (fun x => x.1.1) = (List.range t.A.length).map sA ++ (List.range t.B.length).map sB) := by unfold Hid; rw [List.map_append, ha1, hb1]
    have HFL : Hid (flatI (XA ++ XB) = allT t) := by unfold Hid allT flatI; rw [List.map_append, ha2, hb2, List.flatten_append]
    obtain ⟨XS, hXS⟩ : ∃ XS, XA ++ XB = XS := ⟨_, rfl⟩
    rw [hXS] at HXS HFL
    have HGA := Lib.hid (h.a.row hpos).lt
    have HGB := Lib.hid (fun (q : 0 < t.B.length) => (h.b.row q).lt)
    have HST := Lib.hid (fun (Bn : Nat) (W : World) (hW : Below w.heap.size w W) (hBn : W.cell? ⟨Bn, 0, none⟩ = some (.pointer (some ⟨Q, 0, none⟩))) => bucketsI_stops 9 (by omega) Bn W (TbOn.below h hW) hpos (by omega) (by omega) hBn (fun x => x.1.1) XS HXS.out)
    clear h hg hks ha1 ha2 hb1 hb2 hXS htn hpos hA hB hz hixe
    obtain ⟨R, hR⟩ : ∃ R : Value, (match pickT t draw with | some y => .tuple #[.string ⟨y.1.toArray⟩, .int .i64 y.2, .bool true] | none => .tuple #[.string ⟨#[]⟩, .int .i64 0, .bool false]) = R := ⟨_, rfl⟩
    rw [hR]
    have HR := Lib.hid hR
    clear hR
    refine (callsIn_wide (n := 10)).1 ?_
    refine callsIn_of_wp_marks Try.func37 rfl trivial ?_ rfl
    simp only [Try.ntmps37, List.size_toArray, List.length_cons, List.length_nil, Nat.reduceAdd, Nat.reduceSub, Array.replicate_succ, Array.replicate_zero, List.push_toArray, List.append_toArray, List.nil_append, List.cons_append]
    gi_wp2
    obtain ⟨wz, hwz⟩ : ∃ wz, ((w.alloc (.cells #[.string ⟨#[]⟩] 9)).alloc (.cells #[.int .i64 0] 3)).alloc (.cells #[.bool false] 4) = wz := ⟨_, rfl⟩
    have hbz : Below w.heap.size w wz := by rw [← hwz]; exact (((Below.refl w.heap.size w).alloc (Nat.le_refl _) _).alloc (by simp) _).alloc (by simp; omega) _
    have hb4 : Boxed wz w.heap.size 9 (.string ⟨#[]⟩) := by rw [← hwz]; exact ((Boxed.new w _ _).alloc _).alloc _
    have hb5 : Boxed wz (w.heap.size + 1) 3 (.int .i64 0) := by rw [← hwz]; have q := (Boxed.new (w.alloc (.cells #[.string ⟨#[]⟩] 9)) 3 (.int .i64 0)).alloc (.cells #[.bool false] 4); rw [World.size_alloc] at q; exact q
    have hb6 : Boxed wz (w.heap.size + 2) 4 (.bool false) := by rw [← hwz]; have q := Boxed.new ((w.alloc (.cells #[.string ⟨#[]⟩] 9)).alloc (.cells #[.int .i64 0] 3)) 4 (.bool false); rw [World.size_alloc, World.size_alloc] at q; exact q
    rw [hwz]
    have hsz : wz.heap.size = w.heap.size + 3 := by rw [← hwz]; simp
    clear hwz
    refine ⟨trivial, ?_⟩
    refine (callsIn_wide.2 (HLEN.out _ hbz)).mono ?_
    rintro e w1 ⟨rfl, hb1⟩
    have d4 := hb4.kept (row := none) ⟨hb1.os, hb1.tape, hb1.output, hb1.size, fun k hk _ => hb1.block k hk⟩ (by simp)
    have d5 := hb5.kept (row := none) ⟨hb1.os, hb1.tape, hb1.output, hb1.size, fun k hk _ => hb1.block k hk⟩ (by simp)
    have d6 := hb6.kept (row := none) ⟨hb1.os, hb1.tape, hb1.output, hb1.size, fun k hk _ => hb1.block k hk⟩ (by simp)
    have hbw := hbz.trans (hb1.mono hbz.size)
    have c21 := (hbw.cell (p := ⟨Q, 2, none⟩) hQ).trans c2
    have hsz1 : w.heap.size + 3 ≤ w1.heap.size := by have := hb1.size; omega
    clear hb1 hb4 hb5 hb6 hsz hbz
    gi_wp2_with (refine ⟨trivial, ?_⟩; gi_at_call 68; refine (bucketsMkI_any Q _).mono ?_; rintro e w2 ⟨rfl, rfl⟩)
    obtain ⟨B7, hB7⟩ : ∃ B, w1.heap.size = B := ⟨_, rfl⟩
    have d7 := Boxed.new w1 3 (.int .i64 ix)
    rw [hB7] at d7 hsz1 ⊢
    obtain ⟨wA, hwA⟩ : ∃ wA, w1.alloc (.cells #[.int .i64 ix] 3) = wA := ⟨_, rfl⟩
    have e4 := d4.alloc (.cells #[.int .i64 ix] 3)
    have e5 := d5.alloc (.cells #[.int .i64 ix] 3)
    have e6 := d6.alloc (.cells #[.int .i64 ix] 3)
    have hbA : Below w.heap.size w wA := by rw [← hwA]; exact hbw.alloc (by omega) _
    rw [hwA] at d7 e4 e5 e6 ⊢
    have hszA : wA.heap.size = B7 + 1 := by rw [← hwA, ← hB7]; simp
    obtain ⟨wB, hwB⟩ : ∃ wB, wA.alloc (.cells #[.pointer (some ⟨Q, 0, none⟩)] 28) = wB := ⟨_, rfl⟩
    have hbn : wB.cell? ⟨B7 + 1, 0, none⟩ = some (.pointer (some ⟨Q, 0, none⟩)) := by rw [← hwB, ← hszA]; exact World.news_of_block (heap_alloc_new wA _) 0 _ rfl
    have j7 := d7.alloc (.cells #[.pointer (some ⟨Q, 0, none⟩)] 28)
    have j4 := e4.alloc (.cells #[.pointer (some ⟨Q, 0, none⟩)] 28)
    have j5 := e5.alloc (.cells #[.pointer (some ⟨Q, 0, none⟩)] 28)
    have j6 := e6.alloc (.cells #[.pointer (some ⟨Q, 0, none⟩)] 28)
    have hbB : Below w.heap.size w wB := by rw [← hwB]; exact hbA.alloc hbA.size _
    rw [hwB] at j7 j4 j5 j6 ⊢
    have hszB : wB.heap.size = B7 + 2 := by rw [← hwB]; simp [hszA]
    clear hwA hwB hB7 d4 d5 d6 d7 e4 e5 e6 hbA hbw c21 c0 c2
    refine wpIn_rangeFunc_ownF rfl (by omega) (gf := 89) (lb := #[.pointer (some ⟨B7 + 1, 0, none⟩)]) rfl trivial (enters_of Try.func89 (by kernel_rfl) rfl)
      (HST.out (B7 + 1) wB hbB hbn) (fun h k => h.t k) (fun W l o o' hl h ho _ => KpRI.of_below (n := w.heap.size) ((Below.refl _ W).grown (grownBy_putObj' W l o') (by have := (Array.getElem?_eq_some_iff.1 h).1; omega) (fun k e => by cases e; omega)) HGA.out HGB.out) (Below.refl _ _) (fun _ => rfl)
      (fun pre W => ((flatI pre).length ≤ ix ∧ Boxed W B7 3 (.int .i64 ((ix - (flatI pre).length : Nat) : Int)) ∧ Boxed W w.heap.size 9 (.string ⟨#[]⟩) ∧ Boxed W (w.heap.size + 1) 3 (.int .i64 0) ∧ Boxed W (w.heap.size + 2) 4 (.bool false)) ∧ Below w.heap.size w W)
      (fun c pre W => (c = .ret ∧ ∃ (l0 : List (BkI w base)) (x : BkI w base) (y : List UInt8 × Int), pre = l0 ++ [x] ∧ (flatI l0).length ≤ ix ∧ x.1.2[ix - (flatI l0).length]? = some y ∧ W.cell? ⟨w.heap.size, 0, none⟩ = some (.string ⟨y.1.toArray⟩) ∧ W.cell? ⟨w.heap.size + 1, 0, none⟩ = some (.int .i64 y.2) ∧ W.cell? ⟨w.heap.size + 2, 0, none⟩ = some (.bool true)) ∧ Below w.heap.size w W)
      (OwnFrom.and (fun s A B row hs hg hr => ⟨hs.1, (boxed_own B7 3 (fun (pre : List (BkI w base)) => .int .i64 ((ix - (flatI pre).length : Nat) : Int))) s A B row hs.2.1 hg (fun r e => (hr r e).2), (boxed_own w.heap.size 9 (fun (_ : List (BkI w base)) => .string ⟨#[]⟩)) s A B row hs.2.2.1 hg (fun r e => (hr r e).2), (boxed_own (w.heap.size + 1) 3 (fun (_ : List (BkI w base)) => .int .i64 0)) s A B row hs.2.2.2.1 hg (fun r e => (hr r e).2), (boxed_own (w.heap.size + 2) 4 (fun (_ : List (BkI w base)) => .bool false)) s A B row hs.2.2.2.2 hg (fun r e => (hr r e).2)⟩) (ownFrom_below (Nat.le_refl _) (by omega)))
      (fun c => OwnFrom.and (fun s A B row hs hg hr => by
        obtain ⟨q1, l0, x, y, q2, q3, q4, q5, q6, q7⟩ := hs
        exact ⟨q1, l0, x, y, q2, q3, q4, cell_kept q5 hg (fun r e => (hr r e).2), cell_kept q6 hg (fun r e => (hr r e).2), cell_kept q7 hg (fun r e => (hr r e).2)⟩) (ownFrom_below (Nat.le_refl _) (by omega)))
      ⟨⟨Nat.zero_le _, j7, j4, j5, j6⟩, hbB⟩
      (fun x => { tmps := #[.pointer (some ⟨Q, 0, none⟩), .int .u64 draw, undef, undef, .pointer (some ⟨w.heap.size, 0, none⟩), .pointer (some ⟨w.heap.size + 1, 0, none⟩), .pointer (some ⟨w.heap.size + 1 + 1, 0, none⟩), .pointer (some ⟨B7, 0, none⟩), x.1.1, undef, .pointer (some ⟨Q, 0, none⟩), .int .i64 tn, .bool true, .int .u64 draw, .pointer (some ⟨Q, 0, none⟩), .pointer (some ⟨Q, 0, none⟩), .pointer (some ⟨Q, 2, none⟩), .int .i64 tn, .int .u64 tn, .int .u64 ix, .int .i64 ix, .pointer (some ⟨Q, 0, none⟩), .func (.func 89) #[] #[.pointer (some ⟨B7 + 1, 0, none⟩)], x.1.1, undef, undef, undef, undef, undef, undef, undef, undef, undef, undef, undef, undef, undef, undef, undef, undef, undef, undef, undef, undef], defers := [] }) ?assign ?body ?done ?stop
    case assign =>
      intro l x W K hK
      gi_wp2
      exact hK
    case body =>
      rintro l pre x W ⟨⟨hle, h7, h4, h5, h6⟩, hB⟩ hlt
      have hown := ownsRow_of_block x.2.1 (fun b hb => hB.block b (x.2.1.lt b hb).2)
      have c7 := h7.cell
      have f7 := h7.frozen
      obtain ⟨k, hk⟩ : ∃ k, x.1.2.length = k := ⟨_, rfl⟩
      obtain ⟨f, hf⟩ : ∃ f, (flatI pre).length = f := ⟨_, rfl⟩
      have HK := Lib.hid hk
      have HF := Lib.hid hf
      rw [hf] at hle c7
      obtain ⟨i, hi⟩ : ∃ i, ix - f = i := ⟨_, rfl⟩
      have HI := Lib.hid hi
      rw [hi] at c7
      by_cases hlt2 : i < k
      · obtain ⟨y, hy⟩ : ∃ y, x.1.2[i]? = some y := ⟨_, List.getElem?_eq_getElem (by omega)⟩
        have HY := Lib.hid hy
        obtain ⟨b, c, hx, hkc, hcc, hbl, k0, k1⟩ : ∃ b c, x.1.1 = .slice (some ⟨b, 0, none⟩) x.1.2.length c ∧ x.1.2.length ≤ c ∧ c ≤ 9223372036854775807 ∧ b < w.heap.size ∧ W.cell? ⟨b, i * 2, none⟩ = some (.string ⟨y.1.toArray⟩) ∧ W.cell? ⟨b, i * 2 + 1, none⟩ = some (.int .i64 y.2) := by
          rcases hown.2 with ⟨q1, q2⟩ | ⟨g, cap, cur, hv, _, _, hnc, hcm, _⟩
          · omega
          · have hown' := hown
            rw [hv] at hown'
            refine ⟨g, cap, hv, hnc, by simp [maxLen] at hcm; omega, (x.2.1.lt g (by rw [hv]; rfl)).2, ?_, ?_⟩
            · rw [World.ownsRow.cellAt hown' (i * 2) (by omega)]
              exact (encIt_get _ _ i y hy).1
            · rw [World.ownsRow.cellAt hown' (i * 2 + 1) (by omega)]
              exact (encIt_get _ _ i y hy).2
        rw [hk] at hx hkc
        rw [hx]
        have HLE := Lib.hid hle
        clear hk hf hi hx hy hle
        obtain ⟨S, hS⟩ : ∃ S : ByteArray, ⟨y.1.toArray⟩ = S := ⟨_, rfl⟩
        have HS := Lib.hid hS
        rw [hS] at k0
        have hS47 : S.size ≤ 140737488355328 := by
          have := x.2.2.2 y (List.mem_of_getElem? HY.out)
          rw [← hS]
          show y.1.toArray.size ≤ _
          rw [List.size_toArray]
          omega
        have HCL := Lib.hid (fun W => clone_any S W hS47)
        have hbW : b < W.heap.size := by have := hB.size; omega
        have n4 : ¬ b = w.heap.size := by omega
        have n5 : ¬ b = w.heap.size + 1 := by omega
        have n6 : ¬ b = w.heap.size + 2 := by omega
        have n1 : ¬ B7 = w.heap.size := by omega
        have n2 : ¬ B7 = w.heap.size + 1 := by omega
        have n3 : ¬ B7 = w.heap.size + 1 + 1 := by omega
        have HSTEP : Hid (∀ W' : World, Below W.heap.size W W' → W'.cell? ⟨B7, 0, none⟩ = some (.int .i64 i) ∧ W'.cell? ⟨b, i * 2 + 1, none⟩ = some (.int .i64 y.2) ∧ Boxed W' w.heap.size 9 (.string ⟨#[]⟩) ∧ Boxed W' (w.heap.size + 1) 3 (.int .i64 0) ∧ Boxed W' (w.heap.size + 2) 4 (.bool false)) := fun W' hW' => by
          have hg : W.grownBy W' none := ⟨hW'.os, hW'.tape, hW'.output, hW'.size, fun k hk _ => hW'.block k hk⟩
          exact ⟨(hW'.cell (p := ⟨B7, 0, none⟩) (World.block_lt_of_cell? W _ c7)).trans c7, (hW'.cell (p := ⟨b, i * 2 + 1, none⟩) hbW).trans k1, h4.kept hg (by simp), h5.kept hg (by simp), h6.kept hg (by simp)⟩
        clear hS hown
        gi_wp2
        have hmo : Try.prog.follows .mixedOrders = true := by kernel_rfl
        have HS0 : Hid (W.cell? ⟨B7, 0, none⟩ = some (.int .i64 i) ∧ W.cell? ⟨b, i * 2, none⟩ = some (.string S) ∧ W.cell? ⟨b, i * 2 + 1, none⟩ = some (.int .i64 y.2)) := ⟨c7, k0, k1⟩
        refine region_round (S := fun W' => W'.cell? ⟨B7, 0, none⟩ = some (.int .i64 i) ∧ W'.cell? ⟨b, i * 2, none⟩ = some (.string S) ∧ W'.cell? ⟨b, i * 2 + 1, none⟩ = some (.int .i64 y.2)) hmo (by kernel_rfl) (by rintro ⟨_, _, hq⟩; exact hq) ?_
        have HS1 : Hid (W.drew.cell? ⟨B7, 0, none⟩ = some (.int .i64 i) ∧ W.drew.cell? ⟨b, i * 2, none⟩ = some (.string S) ∧ W.drew.cell? ⟨b, i * 2 + 1, none⟩ = some (.int .i64 y.2)) := HS0.out
        have HB1 : Hid (Below W.heap.size W W.drew) := (Below.refl _ _).drew
        obtain ⟨Wd, hWd⟩ : ∃ Wd, W.drew = Wd := ⟨_, rfl⟩
        rw [hWd] at HS1 HB1 ⊢
        clear hWd c7 k0 k1
        refine wpAnyH_take (i := 0) (v := .slice (some ⟨b, 0, none⟩) k c) rfl (by kernel_rfl) (by kernel_rfl) (by kernel_rfl) (fun _ _ _ hq => hq) (Or.inl ⟨by rfl, ?hy0⟩) HS1.out ?_
        case hy0 =>
          rintro Wx ⟨s0, s1, s2⟩
          go_simp
        refine wpAnyH_take (i := 1) (v := .int .i64 i) rfl (by kernel_rfl) (by kernel_rfl) (by kernel_rfl) (fun _ _ _ hq => hq) (Or.inl ⟨by rfl, ?hy1⟩) HS1.out ?_
        case hy1 =>
          rintro Wx ⟨s0, s1, s2⟩
          go_simp
        refine wpAnyH_take (i := 2) (v := .pointer (some ⟨b, i * 2, none⟩)) rfl (by kernel_rfl) (by kernel_rfl) (by kernel_rfl) (fun _ _ _ hq => hq) (Or.inl ⟨by rfl, ?hy2⟩) HS1.out ?_
        case hy2 =>
          rintro Wx ⟨s0, s1, s2⟩
          go_simp
        refine wpAnyH_take (i := 3) (v := .pointer (some ⟨b, i * 2, none⟩)) rfl (by kernel_rfl) (by kernel_rfl) (by kernel_rfl) (fun _ _ _ hq => hq) (Or.inl ⟨by rfl, ?hy3⟩) HS1.out ?_
        case hy3 =>
          rintro Wx ⟨s0, s1, s2⟩
          go_simp
        refine wpAnyH_take (i := 4) (v := .string S) rfl (by kernel_rfl) (by kernel_rfl) (by kernel_rfl) (fun _ _ _ hq => hq) (Or.inl ⟨by rfl, ?hy4⟩) HS1.out ?_
        case hy4 =>
          rintro Wx ⟨s0, s1, s2⟩
          go_simp
        refine wpAnyH_take (i := 6) (v := .slice (some ⟨b, 0, none⟩) k c) rfl (by kernel_rfl) (by kernel_rfl) (by kernel_rfl) (fun _ _ _ hq => hq) (Or.inl ⟨by rfl, ?hy6⟩) HS1.out ?_
        case hy6 =>
          rintro Wx ⟨s0, s1, s2⟩
          go_simp
        refine wpAnyH_take (i := 7) (v := .int .i64 i) rfl (by kernel_rfl) (by kernel_rfl) (by kernel_rfl) (fun _ _ _ hq => hq) (Or.inl ⟨by rfl, ?hy7⟩) HS1.out ?_
        case hy7 =>
          rintro Wx ⟨s0, s1, s2⟩
          go_simp
        refine wpAnyH_take (i := 8) (v := .pointer (some ⟨b, i * 2, none⟩)) rfl (by kernel_rfl) (by kernel_rfl) (by kernel_rfl) (fun _ _ _ hq => hq) (Or.inl ⟨by rfl, ?hy8⟩) HS1.out ?_
        case hy8 =>
          rintro Wx ⟨s0, s1, s2⟩
          go_simp
        refine wpAnyH_take (i := 9) (v := .pointer (some ⟨b, i * 2 + 1, none⟩)) rfl (by kernel_rfl) (by kernel_rfl) (by kernel_rfl) (fun _ _ _ hq => hq) (Or.inl ⟨by rfl, ?hy9⟩) HS1.out ?_
        case hy9 =>
          rintro Wx ⟨s0, s1, s2⟩
          go_simp
        refine wpAnyH_take (i := 10) (v := .int .i64 y.2) rfl (by kernel_rfl) (by kernel_rfl) (by kernel_rfl) (fun _ _ _ hq => hq) (Or.inl ⟨by rfl, ?hy10⟩) HS1.out ?_
        case hy10 =>
          rintro Wx ⟨s0, s1, s2⟩
          go_simp
        refine wpAnyH_ready (rs := [5]) (by kernel_rfl) (by simp) ?_
        refine AllReadyH.cons rfl (fun K hK => ?_) AllReadyH.nil
        go_simp
        go_at_call 59
        refine (HCL.out _).mono ?_
        rintro en w4 ⟨rfl, hb4⟩
        have hbw4 : Below W.heap.size W w4 := HB1.out.trans (hb4.mono HB1.out.size)
        obtain ⟨m7, mv, m4, m5, m6⟩ := HSTEP.out _ hbw4
        have HS4 : Hid (w4.cell? ⟨B7, 0, none⟩ = some (.int .i64 i) ∧ w4.cell? ⟨b, i * 2, none⟩ = some (.string S) ∧ w4.cell? ⟨b, i * 2 + 1, none⟩ = some (.int .i64 y.2)) := ⟨m7, (hb4.cell (p := ⟨b, i * 2, none⟩) (by have := HB1.out.size; show b < _; omega)).trans HS1.out.2.1, mv⟩
        refine hK.out _ _ HS4.out (fun _ => ?_)
        clear hK K
        refine wpAnyH_ready (rs := [11]) (by kernel_rfl) (by simp) ?_
        refine AllReadyH.cons rfl (fun K hK => ?_) AllReadyH.nil
        have a4 := m4.cell
        have z4 := m4.frozen
        go_simp
        have HKP : Hid (∀ (W' : World) (u : Value) (j : Nat), ¬ B7 = j → ¬ b = j → (W'.cell? ⟨B7, 0, none⟩ = some (.int .i64 i) ∧ W'.cell? ⟨b, i * 2, none⟩ = some (.string S) ∧ W'.cell? ⟨b, i * 2 + 1, none⟩ = some (.int .i64 y.2)) → ((W'.setCell ⟨j, 0, none⟩ u).cell? ⟨B7, 0, none⟩ = some (.int .i64 i) ∧ (W'.setCell ⟨j, 0, none⟩ u).cell? ⟨b, i * 2, none⟩ = some (.string S) ∧ (W'.setCell ⟨j, 0, none⟩ u).cell? ⟨b, i * 2 + 1, none⟩ = some (.int .i64 y.2))) := fun W' u j hj1 hj2 hq => by
          have e1 : (W'.setCell ⟨j, 0, none⟩ u).heap[B7]? = W'.heap[B7]? := Below.heap_setCell _ _ _ _ hj1
          have e2 : (W'.setCell ⟨j, 0, none⟩ u).heap[b]? = W'.heap[b]? := Below.heap_setCell _ _ _ _ hj2
          exact ⟨(World.cell?_of_block (a := ⟨B7, 0, none⟩) e1).trans hq.1, (World.cell?_of_block (a := ⟨b, i * 2, none⟩) e2).trans hq.2.1, (World.cell?_of_block (a := ⟨b, i * 2 + 1, none⟩) e2).trans hq.2.2⟩
        have HS5 := Lib.hid (HKP.out w4 (.string S) w.heap.size n1 n4 HS4.out)
        refine hK.out _ _ HS5.out (fun _ => ?_)
        clear hK K
        have hbw5 := hbw4.mono hB.size
        have M4 := Lib.hid (m4.set (.string S))
        have m5' := m5.other (B' := w.heap.size) (by omega) (.string S)
        have M6 := Lib.hid (m6.other (B' := w.heap.size) (by omega) (.string S))
        obtain ⟨w5, hw5⟩ : ∃ w5, w4.setCell ⟨w.heap.size, 0, none⟩ (.string S) = w5 := ⟨_, rfl⟩
        have HB5 : Hid (Below w.heap.size w w5) := by unfold Hid; rw [← hw5]; exact (hB.trans hbw5).setCell (p := ⟨w.heap.size, 0, none⟩) (Nat.le_refl _) _
        have HKO : Hid (KeepsOthers W w5) := by unfold Hid; rw [← hw5]; exact (KeepsOthers.of_grownBy (row := none) ⟨hbw4.os, hbw4.tape, hbw4.output, hbw4.size, fun k hk _ => hbw4.block k hk⟩ (fun _ _ e => by cases e)).trans (KeepsOthers.setCell _ _ _)
        rw [hw5] at HS5 M4 m5' M6 ⊢
        clear hw5 m4 m5 m6 a4 z4 m7 mv hb4 hbw4 hbw5 HS4
        refine wpAnyH_ready (rs := [12]) (by kernel_rfl) (by simp) ?_
        refine AllReadyH.cons rfl (fun K hK => ?_) AllReadyH.nil
        have a5 := m5'.cell
        have z5 := m5'.frozen
        go_simp
        have HS6 := Lib.hid (HKP.out w5 (.int .i64 y.2) (w.heap.size + 1) n2 n5 HS5.out)
        refine hK.out _ _ HS6.out (fun _ => ?_)
        clear hK K
        have N4 := Lib.hid (M4.out.other (B' := w.heap.size + 1) (by omega) (.int .i64 y.2))
        have N5 := Lib.hid (m5'.set (.int .i64 y.2))
        have m6' := M6.out.other (B' := w.heap.size + 1) (by omega) (.int .i64 y.2)
        obtain ⟨w6, hw6⟩ : ∃ w6, w5.setCell ⟨w.heap.size + 1, 0, none⟩ (.int .i64 y.2) = w6 := ⟨_, rfl⟩
        have HB6 : Hid (Below w.heap.size w w6) := by unfold Hid; rw [← hw6]; exact HB5.out.setCell (p := ⟨w.heap.size + 1, 0, none⟩) (by show w.heap.size ≤ w.heap.size + 1; omega) _
        have HKO6 : Hid (KeepsOthers W w6) := by unfold Hid; rw [← hw6]; exact HKO.out.trans (KeepsOthers.setCell _ _ _)
        rw [hw6] at HS6 N4 N5 m6' ⊢
        clear hw6 m5' a5 z5
        refine wpAnyH_ready (rs := [13]) (by kernel_rfl) (by simp) ?_
        refine AllReadyH.cons rfl (fun K hK => ?_) AllReadyH.nil
        have a6 := m6'.cell
        have z6 := m6'.frozen
        go_simp
        refine hK.out _ _ (HKP.out w6 (.bool true) (w.heap.size + 2) n3 n6 HS6.out) (fun _ => ?_)
        clear hK K
        have P4 := (N4.out.other (B' := w.heap.size + 2) (by omega) (.bool true)).cell
        have P5 := (N5.out.other (B' := w.heap.size + 2) (by omega) (.bool true)).cell
        have P6 := (m6'.set (.bool true)).cell
        have HB7 := Lib.hid (HB6.out.setCell (p := ⟨w.heap.size + 2, 0, none⟩) (by show w.heap.size ≤ w.heap.size + 2; omega) (.bool true))
        have HKO7 := Lib.hid (HKO6.out.trans (KeepsOthers.setCell w6 ⟨w.heap.size + 2, 0, none⟩ (.bool true)))
        have HP4 := Lib.hid P4
        have HP5 := Lib.hid P5
        have HP6 := Lib.hid P6
        clear P4 P5 P6 m6' a6 z6
        refine wpAnyH_done (by kernel_rfl) ?_ _
        gi_wp2
        refine ⟨HKO7.out, ⟨rfl, pre, x, y, rfl, ?_, ?_, ?_, HP5.out, HP6.out⟩, HB7.out⟩
        · rw [HF.out]; exact HLE.out
        · rw [HF.out, HI.out]; exact HY.out
        · rw [HP4.out, HS.out]
      · have hlt3 : ¬ (i : Int) < (k : Int) := by omega
        obtain ⟨A, c, hx⟩ := own_sliceI hown
        rw [hk] at hx
        rw [hx]
        obtain ⟨q, hq⟩ : ∃ q, i - k = q := ⟨_, rfl⟩
        have hwq : IntKind.i64.wrap ((i : Int) - (k : Int)) = (q : Int) := by rw [IntWalk.i64_in _ (by omega)]; omega
        have hfk : f + k ≤ ix := by omega
        have hqe : q = ix - (f + k) := by omega
        have HQE := Lib.hid hqe
        have HFK := Lib.hid hfk
        have hbn : w.heap.size ≤ B7 := by omega
        have HBN := Lib.hid hbn
        have hs7 := h7.set (.int .i64 q)
        have H7 := Lib.hid hs7
        have H4 := Lib.hid (h4.other (B' := B7) (by omega) (.int .i64 q))
        have H5 := Lib.hid (h5.other (B' := B7) (by omega) (.int .i64 q))
        have H6 := Lib.hid (h6.other (B' := B7) (by omega) (.int .i64 q))
        clear hk hf hi hx hq hle hqe hfk hlt2 hs7 h7 h4 h5 h6 hown hbn
        gi_wp2
        have hB8 : Below w.heap.size W (W.setCell ⟨B7, 0, none⟩ (.int .i64 q)) := (Below.refl _ W).setCell (p := ⟨B7, 0, none⟩) HBN.out _
        have hfl : (flatI (pre ++ [x])).length = f + k := by
          unfold flatI at HF ⊢
          rw [List.map_append, List.flatten_append, List.length_append, HF.out, show (List.map (fun (x : BkI w base) => x.1.2) [x]).flatten = x.1.2 from by simp, HK.out]
        refine ⟨KeepsOthers.setCell _ _ _, KpRI.of_below hB8 HGA.out HGB.out, ⟨by rw [hfl]; exact HFK.out, ?_, H4.out, H5.out, H6.out⟩, hB.trans hB8⟩
        rw [hfl, ← HQE.out]
        exact H7.out
    case done =>
      rintro D ys W hD rfl ⟨⟨hle, _⟩, hB⟩ hK
      exfalso
      rw [HFL.out, HLN.out] at hle
      omega
    case stop =>
      rintro D c pre W hD hSp ⟨⟨rfl, l0, x, y, rfl, hl0, hxy, q4, q5, q6⟩, hB⟩ hK
      obtain ⟨r, hr⟩ := hSp
      have hy : (allT t)[ix]? = some y := by
        rw [← HFL.out, ← hr]
        unfold flatI at hl0 hxy ⊢
        rw [List.map_append, List.map_append, List.flatten_append, List.flatten_append, show (List.map (fun (x : BkI w base) => x.1.2) [x]).flatten = x.1.2 from by simp, List.append_assoc, List.getElem?_append_right hl0, List.getElem?_append_left (List.getElem?_eq_some_iff.1 hxy).1]
        exact hxy
      have hRR : R = .tuple #[.string ⟨y.1.toArray⟩, .int .i64 y.2, .bool true] := by rw [← HR.out, HPK.out, hy]
      have HBF := Lib.hid (hB.trans (belowK_b (w := w) (Nat.le_refl _) W D _ (.deferred none) (by omega) hK rfl rfl))
      have hgr := grownBy_putObj' W D (.deferred none)
      have p4 := cell_kept q4 hgr (fun r e => by cases e; exact ⟨_, hK, rfl⟩)
      have p5 := cell_kept q5 hgr (fun r e => by cases e; exact ⟨_, hK, rfl⟩)
      have p6 := cell_kept q6 hgr (fun r e => by cases e; exact ⟨_, hK, rfl⟩)
      gi_wp2
      refine ⟨by simp, .inl ⟨_, _, rfl, run_takeDeferred hK, ?_⟩⟩
      refine ⟨R, ?_, rfl, HBF.out⟩
      rw [hRR]
      simp [results, Try.results37, go_sem, p4, p5, p6]

end Go.Proofs.Ytcjoakbaldeaoaa
