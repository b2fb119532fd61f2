/-
  The walks of package reply's whole and Decode, at any bytes. Conditions: the bytes lie in memory.
-/
import Derived.Test.YtppbcdollomebaaDoorRzO
namespace Go.Proofs.YtppbcdollomebaaDoor
open Go.RowKit

/-- What Decode tells of a reply that was read, or was not. -/
def outT (x : RT × (Nat × Nat)) : RT := if x.2.2 = 0 then x.1 else rt0

set_option maxRecDepth 100000 in
set_option maxHeartbeats 8000000 in
theorem ywhole_any (B b : Nat) (bs : List UInt8) (w : World) (h : InAt w B b bs 0 0) :
    Calls Tryd.prog 26 #[.pointer (some ⟨B, 0, none⟩)] w fun e w' => (∃ (k : Nat) (T : ByteArray) (z : Int) (A : Option Addr) (l c : Nat), e = .returned (.tuple #[.agg #[.int .i64 k, .string T, .int .i64 z, .slice A l c], .int .i64 (replyS bs 8 0).2.2]) ∧ RepAt w' (fun g => w.heap.size ≤ g) (outT (replyS bs 8 0)) [.int .i64 k, .string T, .int .i64 z, .slice A l c]) ∧ ∃ m, Gn w B b bs (replyS bs 8 0).2.1 m w' := by
  have hmf : ∀ (fn : Fn) (first cap : Array Value) (w : World), (Instr.makeFunc fn first cap).run Tryd.prog w = .ok (.func fn first cap) w := fun _ _ _ _ => rfl
  have hB := h.hB
  have hb := h.hb
  have h6 : 6 ≤ w.heap.size := by have := h.six; omega
  obtain ⟨w1, hw1⟩ : ∃ w1, w.alloc (.cells #[.int .i64 0, .string ⟨#[]⟩, .int .i64 0, .slice none 0 0] 25) = w1 := ⟨_, rfl⟩
  have hz1 : w1.heap.size = w.heap.size + 1 := by rw [← hw1]; simp
  have hb1 : Below w.heap.size w w1 := by rw [← hw1]; exact (Below.refl _ _).alloc (Nat.le_refl _) _
  have hn1 : w1.heap[w.heap.size]? = some (.cells #[.int .i64 0, .string ⟨#[]⟩, .int .i64 0, .slice none 0 0] 25) := by rw [← hw1]; exact World.alloc_heap_new w _
  obtain ⟨w2, hw2⟩ : ∃ w2, w1.alloc (.cells #[.int .i64 0] 27) = w2 := ⟨_, rfl⟩
  have hz2 : w2.heap.size = w.heap.size + 2 := by rw [← hw2, World.size_alloc, hz1]
  have hb2 : Below w1.heap.size w1 w2 := by rw [← hw2]; exact (Below.refl _ _).alloc (Nat.le_refl _) _
  have hn2 : w2.heap[w1.heap.size]? = some (.cells #[.int .i64 0] 27) := by rw [← hw2]; exact World.alloc_heap_new w1 _
  have hn12 := (hb2.block w.heap.size (by omega)).trans hn1
  rw [hz1] at hn2
  have hb12 : Below w.heap.size w w2 := hb1.trans (hb2.mono (by omega))
  have HA := Lib.hid (h.below hb12)
  have HB12 := Lib.hid hb12
  have HN1 := Lib.hid hn12
  have HN2 := Lib.hid hn2
  have HZ1 := Lib.hid hz1
  have HZ2 := Lib.hid hz2
  obtain ⟨x, hx⟩ : ∃ x, replyS bs 8 0 = x := ⟨_, rfl⟩
  have HR := Lib.hid (yreply_all B b bs 8 0 rfl 0 w2 HA.out)
  rw [hx] at HR ⊢
  clear hb1 hn1 hb2 hn2 hn12 hb12 hz2 h hx
  go_enter_defers Tryd.func26, Tryd.ntmps26
  go_wp2_with fail
  refine HR.out.mono ?_
  clear hw1 hw2 hz1
  rintro e w3 hres
  have hz1 := HZ1.out
  have hz2 := HZ2.out
  have hgr : w2.grownBy w3 (some B) := by rcases hres with ⟨_, _, hg⟩ | ⟨_, _, _, hg⟩ <;> exact hg.grown
  have hz3 := hgr.size
  have hne : ∀ (k : Nat), k ≠ B → (some B : Option Nat) ≠ some k := fun k h e => by injection e with e; exact h e.symm
  have b1 := hgr.block w.heap.size (by omega) (fun e => by injection e with e; omega)
  have b2 := hgr.block (w.heap.size + 1) (by omega) (fun e => by injection e with e; omega)
  have c1 := b1.trans HN1.out
  have c2 := b2.trans HN2.out
  have r0 : w3.cell? ⟨w.heap.size, 0, none⟩ = some (.int .i64 0) := cell_in c1
  have r1 : w3.cell? ⟨w.heap.size, 1, none⟩ = some (.string ⟨#[]⟩) := cell_in c1
  have r2 : w3.cell? ⟨w.heap.size, 2, none⟩ = some (.int .i64 0) := cell_in c1
  have r3 : w3.cell? ⟨w.heap.size, 3, none⟩ = some (.slice none 0 0) := cell_in c1
  have q0 : w3.cell? ⟨w.heap.size + 1, 0, none⟩ = some (.int .i64 0) := cell_in c2
  have s0 : w3.frozen? ⟨w.heap.size, 0, none⟩ = false := mark_in c1
  have s1 : w3.frozen? ⟨w.heap.size, 1, none⟩ = false := mark_in c1
  have s2 : w3.frozen? ⟨w.heap.size, 2, none⟩ = false := mark_in c1
  have s3 : w3.frozen? ⟨w.heap.size, 3, none⟩ = false := mark_in c1
  have t0 : w3.frozen? ⟨w.heap.size + 1, 0, none⟩ = false := mark_in c2
  clear b1 b2 c1 c2 hne HR hz1 hz2
  rcases hres with ⟨hs0, ⟨K, T, z, A', l, cc, rfl, hx⟩, hg⟩ | ⟨hs1, hth, m, hg⟩
  · have HX := Lib.hid hx
    have HG := Lib.hid (Gn.after HB12.out hg)
    clear hx hg
    go_wp2
    obtain ⟨Y, hY⟩ : ∃ Y, ((((w3.setCell ⟨w.heap.size, 0, none⟩ (.int .i64 K)).setCell ⟨w.heap.size, 1, none⟩ (.string T)).setCell ⟨w.heap.size, 2, none⟩ (.int .i64 z)).setCell ⟨w.heap.size, 3, none⟩ (.slice A' l cc)).setCell ⟨w.heap.size + 1, 0, none⟩ (.int .i64 0) = Y := ⟨_, rfl⟩
    have x0 : Y.cell? ⟨w.heap.size, 0, none⟩ = some (.int .i64 K) := by rw [← hY]; simp [go_sem, r0]
    have x1 : Y.cell? ⟨w.heap.size, 1, none⟩ = some (.string T) := by rw [← hY]; simp [go_sem, r1]
    have x2 : Y.cell? ⟨w.heap.size, 2, none⟩ = some (.int .i64 z) := by rw [← hY]; simp [go_sem, r2]
    have x3 : Y.cell? ⟨w.heap.size, 3, none⟩ = some (.slice A' l cc) := by rw [← hY]; simp [go_sem, r3]
    have x4 : Y.cell? ⟨w.heap.size + 1, 0, none⟩ = some (.int .i64 0) := by rw [← hY]; simp [go_sem, q0]
    have x5 : Y.frozen? ⟨w.heap.size + 1, 0, none⟩ = false := by rw [← hY]; simp [go_sem, t0]
    have HGY : Hid (Gn w B b bs x.2.1 0 (Y.setCell ⟨w.heap.size + 1, 0, none⟩ (.int .i64 0))) := by
      rw [← hY]
      exact ((HG.out.box hB hb h6 _ _ _ _).far _ _ hB hb h6 (Nat.le_succ _)).far _ _ hB hb h6 (Nat.le_succ _)
    have HXY : Hid (RepAt (Y.setCell ⟨w.heap.size + 1, 0, none⟩ (.int .i64 0)) (fun g => w.heap.size ≤ g) x.1 [.int .i64 K, .string T, .int .i64 z, .slice A' l cc]) := by
      rw [← hY]
      refine HX.out.keep (by simp [World.setCell]) (fun g h1 _ => by have h1 : w2.heap.size ≤ g := h1; have := HZ2.out; omega) (fun g h1 _ => ?_)
      have h1 : w2.heap.size ≤ g := h1
      have := HZ2.out
      have hg : g ≠ w.heap.size := by omega
      have hg2 : g ≠ w.heap.size + 1 := by omega
      rw [Below.heap_setCell _ _ _ _ hg2, Below.heap_setCell _ _ _ _ hg2, Below.heap_setCell _ _ _ _ hg, Below.heap_setCell _ _ _ _ hg, Below.heap_setCell _ _ _ _ hg, Below.heap_setCell _ _ _ _ hg]
    rw [hY]
    clear hY r0 r1 r2 r3 q0 s0 s1 s2 s3 t0
    refine leaves_cons (f := 36) (args := #[.pointer (some ⟨w.heap.size + 1, 0, none⟩)]) (by simp) (by simp [go_sem]) ?_
    refine (ydeferred_ret (w.heap.size + 1) (.int .i64 0) Y x4 x5).mono ?_
    rintro e u' w'' ⟨rfl, rfl, rfl⟩
    simp [Leaves, settle, results, Tryd.results26, go_sem, x0, x1, x2, x3, x4]
    exact ⟨⟨K, T, z, A', l, cc, ⟨⟨rfl, rfl, rfl, rfl, rfl, rfl⟩, by omega⟩, by unfold outT; rw [if_pos hs0]; exact HXY.out⟩, 0, HGY.out⟩
  · unfold ThrownR at hth
    subst hth
    have HG := Lib.hid (Gn.after HB12.out hg)
    clear hg
    go_wp2
    refine leaves_cons (f := 36) (args := #[.pointer (some ⟨w.heap.size + 1, 0, none⟩)]) (by simp) (by simp [go_sem]) ?_
    refine (ydeferred_panic (w.heap.size + 1) (.int .i64 0) x.2.2 w3 q0 t0).mono ?_
    rintro e u' w'' ⟨rfl, rfl, rfl⟩
    simp [Leaves, settle, results, Tryd.results26, go_sem, r0, r1, r2, r3, q0]
    exact ⟨⟨0, ⟨#[]⟩, 0, none, 0, 0, ⟨rfl, rfl, rfl, rfl, rfl, rfl⟩, by unfold outT; rw [if_neg hs1]; exact .leaf 0 [] 0 ⟨#[]⟩ rfl⟩, m, HG.out.far _ _ hB hb h6 (Nat.le_succ _)⟩

theorem LeftV.slice {w : World} {b : Nat} {v : Value} {l : List UInt8} (h : LeftV w b v l) : ∃ A c, v = .slice A l.length c := by
  obtain ⟨o, c, h, _⟩ := h
  exact ⟨_, c, h⟩

set_option maxRecDepth 100000 in
set_option maxHeartbeats 8000000 in
theorem ydecode_some (b o cap : Nat) (bs : List UInt8) (w : World) (h6 : 6 ≤ w.heap.size) (hb : b < w.heap.size) (hat : BytesAt w b o bs) (hcl : bs.length ≤ cap) (hcm : cap ≤ 9223372036854775807) (hT : Tabs8 w) (hpl : (replyS bs 8 0).2.1 ≤ bs.length) :
    Calls Tryd.prog 15 #[.slice (some ⟨b, o, none⟩) bs.length cap] w fun en w' => Below w.heap.size w w' ∧ ∃ (k : Nat) (T : ByteArray) (n : Int) (A' : Option Addr) (l c : Nat),
      en = .returned (.tuple #[.agg #[.int .i64 k, .string T, .int .i64 n, .slice A' l c], .int .i64 (replyS bs 8 0).2.1, .int .i64 (replyS bs 8 0).2.2]) ∧
      RepAt w' (fun g => w.heap.size ≤ g) (outT (replyS bs 8 0)) [.int .i64 k, .string T, .int .i64 n, .slice A' l c] := by
  obtain ⟨w1, hw1⟩ : ∃ w1, w.alloc (.cells #[.int .i64 0, .string ⟨#[]⟩, .int .i64 0, .slice none 0 0] 25) = w1 := ⟨_, rfl⟩
  have hz1 : w1.heap.size = w.heap.size + 1 := by rw [← hw1]; simp
  have hb1 : Below w.heap.size w w1 := by rw [← hw1]; exact (Below.refl _ _).alloc (Nat.le_refl _) _
  have hn1 : w1.heap[w.heap.size]? = some (.cells #[.int .i64 0, .string ⟨#[]⟩, .int .i64 0, .slice none 0 0] 25) := by rw [← hw1]; exact World.alloc_heap_new w _
  obtain ⟨w2, hw2⟩ : ∃ w2, w1.alloc (.cells #[.slice (some ⟨b, o, none⟩) bs.length cap, .int .i64 0] 55) = w2 := ⟨_, rfl⟩
  have hz2 : w2.heap.size = w.heap.size + 2 := by rw [← hw2, World.size_alloc, hz1]
  have hb2 : Below w1.heap.size w1 w2 := by rw [← hw2]; exact (Below.refl _ _).alloc (Nat.le_refl _) _
  have hn2 : w2.heap[w1.heap.size]? = some (.cells #[.slice (some ⟨b, o, none⟩) bs.length cap, .int .i64 0] 55) := by rw [← hw2]; exact World.alloc_heap_new w1 _
  have hn12 := (hb2.block w.heap.size (by omega)).trans hn1
  rw [hz1] at hn2
  have hb12 : Below w.heap.size w w2 := hb1.trans (hb2.mono (by omega))
  have hin : InAt w2 (w.heap.size + 1) b bs 0 0 := ⟨⟨_, (cell_in hn2).trans rfl, by rw [List.drop_zero]; exact ⟨o, cap, rfl, hcl, hcm, hat.below hb12 hb⟩⟩, (cell_in hn2).trans rfl, mark_in hn2, mark_in hn2, by omega, by omega, by omega, by omega, hT.below hb12 h6⟩
  have HR := Lib.hid (ywhole_any (w.heap.size + 1) b bs w2 hin)
  obtain ⟨tr, hO⟩ : ∃ t, outT (replyS bs 8 0) = t := ⟨_, rfl⟩
  obtain ⟨p, hP⟩ : ∃ p, (replyS bs 8 0).2.1 = p := ⟨_, rfl⟩
  obtain ⟨f, hF⟩ : ∃ f, (replyS bs 8 0).2.2 = f := ⟨_, rfl⟩
  rw [hO, hP, hF] at HR ⊢
  rw [hP] at hpl
  have HB12 := Lib.hid hb12
  have HN1 := Lib.hid hn12
  have HZ2 := Lib.hid hz2
  have HW1 := Lib.hid hw1
  have HW2 := Lib.hid hw2
  clear hb1 hn1 hb2 hn2 hn12 hb12 hz2 hw1 hw2 hz1 hin hO hP hF
  go_enter Tryd.func15, Tryd.ntmps15
  go_wp2_with fail
  rw [HW1.out, HW2.out]
  refine HR.out.mono ?_
  rintro e w3 ⟨⟨K, T, z, A', l, cc, rfl, hx⟩, m, hg⟩
  have hz2 := HZ2.out
  have hz3 := hg.grown.size
  obtain ⟨v3, hc3, hl3⟩ := hg.st.c0
  obtain ⟨A3, c3, rfl⟩ := hl3.slice
  have hlen : (bs.drop p).length = bs.length - p := List.length_drop
  have c1 := (hg.grown.block w.heap.size (by omega) (fun e => by injection e with e; omega)).trans HN1.out
  have r0 : w3.cell? ⟨w.heap.size, 0, none⟩ = some (.int .i64 0) := cell_in c1
  have r1 : w3.cell? ⟨w.heap.size, 1, none⟩ = some (.string ⟨#[]⟩) := cell_in c1
  have r2 : w3.cell? ⟨w.heap.size, 2, none⟩ = some (.int .i64 0) := cell_in c1
  have r3 : w3.cell? ⟨w.heap.size, 3, none⟩ = some (.slice none 0 0) := cell_in c1
  have s0 : w3.frozen? ⟨w.heap.size, 0, none⟩ = false := mark_in c1
  have s1 : w3.frozen? ⟨w.heap.size, 1, none⟩ = false := mark_in c1
  have s2 : w3.frozen? ⟨w.heap.size, 2, none⟩ = false := mark_in c1
  have s3 : w3.frozen? ⟨w.heap.size, 3, none⟩ = false := mark_in c1
  have HBW : Hid (Below w.heap.size w w3) := HB12.out.trans ⟨hg.grown.os, hg.grown.tape, hg.grown.output, hg.grown.size, fun k hk => hg.grown.block k (by omega) (fun e => by injection e with e; omega)⟩
  have HX : Hid (RepAt w3 (fun g => w.heap.size + 2 ≤ g) tr [.int .i64 K, .string T, .int .i64 z, .slice A' l cc]) := hx.weak (fun g h1 _ => by have h1 : w2.heap.size ≤ g := h1; omega)
  have hlt3 : w.heap.size < w3.heap.size := by omega
  have hlt4 : w.heap.size + 1 < w3.heap.size := by omega
  obtain ⟨R, hRR⟩ : ∃ R, (bs.drop p).length = R := ⟨_, rfl⟩
  rw [hRR] at hc3 hlen
  have hpn : (bs.length : Int) - (R : Int) = (p : Int) := by omega
  have hRle : R ≤ bs.length := by omega
  clear hg hl3 c1 hx HR hz2 hz3 hlen hRR
  go_wp2
  go_region
  all_goals
    go_wp2
    obtain ⟨Z, hZ⟩ : ∃ Z, (((w3.setCell ⟨w.heap.size, 0, none⟩ (.int .i64 K)).setCell ⟨w.heap.size, 1, none⟩ (.string T)).setCell ⟨w.heap.size, 2, none⟩ (.int .i64 z)).setCell ⟨w.heap.size, 3, none⟩ (.slice A' l cc) = Z := ⟨_, rfl⟩
    have zs : Z.heap.size = w3.heap.size := by rw [← hZ]; simp [World.setCell]
    have x0 : Z.cell? ⟨w.heap.size, 0, none⟩ = some (.int .i64 K) := by rw [← hZ]; simp [go_sem, r0]
    have x1 : Z.cell? ⟨w.heap.size, 1, none⟩ = some (.string T) := by rw [← hZ]; simp [go_sem, r1]
    have x2 : Z.cell? ⟨w.heap.size, 2, none⟩ = some (.int .i64 z) := by rw [← hZ]; simp [go_sem, r2]
    have x3 : Z.cell? ⟨w.heap.size, 3, none⟩ = some (.slice A' l cc) := by rw [← hZ]; simp [go_sem, r3]
    have hbz : Below w.heap.size w Z := by rw [← hZ]; exact (((HBW.out.setCell (Nat.le_refl _) _).setCell (Nat.le_refl _) _).setCell (Nat.le_refl _) _).setCell (Nat.le_refl _) _
    have hrz : RepAt Z (fun g => w.heap.size + 2 ≤ g) tr [.int .i64 K, .string T, .int .i64 z, .slice A' l cc] := by
      refine HX.out.keep (by rw [zs]; exact Nat.le_refl _) (fun _ h1 _ => h1) (fun g h1 _ => ?_)
      have h1 : w.heap.size + 2 ≤ g := h1
      have hg : g ≠ w.heap.size := by omega
      rw [← hZ, Below.heap_setCell _ _ _ _ hg, Below.heap_setCell _ _ _ _ hg, Below.heap_setCell _ _ _ _ hg, Below.heap_setCell _ _ _ _ hg]
    rw [hZ]
    have hbo : Below w.heap.size w (Z.alloc (.cells #[.int .i64 K, .string T, .int .i64 z, .slice A' l cc] 25)) := hbz.alloc (by omega) _
    have hro : RepAt (Z.alloc (.cells #[.int .i64 K, .string T, .int .i64 z, .slice A' l cc] 25)) (fun g => w.heap.size ≤ g) tr [.int .i64 K, .string T, .int .i64 z, .slice A' l cc] :=
      hrz.keep (by simp) (fun g h1 _ => by have h1 : w.heap.size + 2 ≤ g := h1; omega) (fun g _ h2 => ((Below.refl Z.heap.size Z).alloc (Nat.le_refl _) _).block g h2)
    have y0 := (World.cell?_alloc_lt Z (.cells #[.int .i64 K, .string T, .int .i64 z, .slice A' l cc] 25) ⟨w.heap.size, 0, none⟩ (by show w.heap.size < Z.heap.size; omega)).trans x0
    have y1 := (World.cell?_alloc_lt Z (.cells #[.int .i64 K, .string T, .int .i64 z, .slice A' l cc] 25) ⟨w.heap.size, 1, none⟩ (by show w.heap.size < Z.heap.size; omega)).trans x1
    have y2 := (World.cell?_alloc_lt Z (.cells #[.int .i64 K, .string T, .int .i64 z, .slice A' l cc] 25) ⟨w.heap.size, 2, none⟩ (by show w.heap.size < Z.heap.size; omega)).trans x2
    have y3 := (World.cell?_alloc_lt Z (.cells #[.int .i64 K, .string T, .int .i64 z, .slice A' l cc] 25) ⟨w.heap.size, 3, none⟩ (by show w.heap.size < Z.heap.size; omega)).trans x3
    refine bodyPost_ret (v := .tuple #[.agg #[.int .i64 K, .string T, .int .i64 z, .slice A' l cc], .int .i64 p, .int .i64 f]) ?_ rfl ⟨by first | exact hbo.drew | exact hbo, K, T, z, A', l, cc, rfl, by first | exact hro | exact hro.keep (Nat.le_refl _) (fun _ h1 _ => h1) (fun _ _ _ => rfl)⟩
    simp [results, Tryd.results15, go_sem, y0, y1, y2, y3]

end Go.Proofs.YtppbcdollomebaaDoor
