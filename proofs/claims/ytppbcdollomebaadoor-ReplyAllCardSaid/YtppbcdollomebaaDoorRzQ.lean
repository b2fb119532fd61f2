/-
  The walk of package reply's Decode, at any bytes, none among them: it tells what the document's tells. Conditions: the bytes lie in memory. Plain facts: no place that the document's reader tells lies beyond the bytes. Package reply's Decode tells what the document's tells, at any bytes. Conditions: the bytes lie in memory.
-/
import Derived.Test.YtppbcdollomebaaDoorRzP
namespace Go.Proofs.YtppbcdollomebaaDoor
open Go.RowKit

set_option maxRecDepth 100000 in
set_option maxHeartbeats 1000000 in
theorem ynext_none (B : Nat) (A : Option Addr) (cap : Nat) (w : World) (hc : w.cell? ⟨B, 0, none⟩ = some (.slice A 0 cap)) :
    Calls Tryd.prog 50 #[.pointer (some ⟨B, 0, none⟩)] w fun e w' => ThrownR 31 e ∧ w = w' := by
  go_enter Tryd.func50, Tryd.ntmps50
  go_wp2
  exact ⟨rfl, rfl, rfl⟩

set_option maxRecDepth 100000 in
set_option maxHeartbeats 2000000 in
theorem yreply_none (B : Nat) (A : Option Addr) (cap : Nat) (w : World) (hB : B < w.heap.size) (hc : w.cell? ⟨B, 0, none⟩ = some (.slice A 0 cap)) :
    Calls Tryd.prog 38 #[.pointer (some ⟨B, 0, none⟩)] w fun e w' => ThrownR 31 e ∧ Below w.heap.size w w' := by
  have hal : Below w.heap.size w (w.alloc (.cells #[.int .i64 0, .string ⟨#[]⟩, .int .i64 0, .slice none 0 0] 25)) := (Below.refl _ _).alloc (Nat.le_refl _) _
  obtain ⟨wa, hwa⟩ : ∃ wa, w.alloc (.cells #[.int .i64 0, .string ⟨#[]⟩, .int .i64 0, .slice none 0 0] 25) = wa := ⟨_, rfl⟩
  rw [hwa] at hal
  have HN := Lib.hid (ynext_none B A cap wa ((hal.cell (p := ⟨B, 0, none⟩) hB).trans hc))
  have HAL := Lib.hid hal
  clear hal hc
  go_enter Tryd.func38, Tryd.ntmps38
  go_wp2_with fail
  try rw [hwa]
  clear hwa
  refine HN.out.mono ?_
  rintro e w' ⟨rfl, rfl⟩
  go_wp2
  exact ⟨rfl, rfl, HAL.out⟩

set_option maxRecDepth 100000 in
set_option maxHeartbeats 8000000 in
theorem ywhole_none (B : Nat) (A : Option Addr) (cap : Nat) (w : World) (hB : B < w.heap.size) (hc : w.cell? ⟨B, 0, none⟩ = some (.slice A 0 cap)) :
    Calls Tryd.prog 26 #[.pointer (some ⟨B, 0, none⟩)] w fun e w' => e = .returned (.tuple #[leafV 0 ⟨#[]⟩ 0, .int .i64 31]) ∧ Below w.heap.size w w' := by
  have hmf : ∀ (fn : Fn) (first cap : Array Value) (w : World), (Instr.makeFunc fn first cap).run Tryd.prog w = .ok (.func fn first cap) w := fun _ _ _ _ => rfl
  obtain ⟨w1, hw1⟩ : ∃ w1, w.alloc (.cells #[.int .i64 0, .string ⟨#[]⟩, .int .i64 0, .slice none 0 0] 25) = w1 := ⟨_, rfl⟩
  have hz1 : w1.heap.size = w.heap.size + 1 := by rw [← hw1]; simp
  have hb1 : Below w.heap.size w w1 := by rw [← hw1]; exact (Below.refl _ _).alloc (Nat.le_refl _) _
  have hn1 : w1.heap[w.heap.size]? = some (.cells #[.int .i64 0, .string ⟨#[]⟩, .int .i64 0, .slice none 0 0] 25) := by rw [← hw1]; exact World.alloc_heap_new w _
  obtain ⟨w2, hw2⟩ : ∃ w2, w1.alloc (.cells #[.int .i64 0] 27) = w2 := ⟨_, rfl⟩
  have hz2 : w2.heap.size = w.heap.size + 2 := by rw [← hw2, World.size_alloc, hz1]
  have hb2 : Below w1.heap.size w1 w2 := by rw [← hw2]; exact (Below.refl _ _).alloc (Nat.le_refl _) _
  have hn2 : w2.heap[w1.heap.size]? = some (.cells #[.int .i64 0] 27) := by rw [← hw2]; exact World.alloc_heap_new w1 _
  have hn12 := (hb2.block w.heap.size (by omega)).trans hn1
  rw [hz1] at hn2
  have hb12 : Below w.heap.size w w2 := hb1.trans (hb2.mono (by omega))
  have HB12 := Lib.hid hb12
  have HN1 := Lib.hid hn12
  have HN2 := Lib.hid hn2
  have HZ1 := Lib.hid hz1
  have HZ2 := Lib.hid hz2
  have HR := Lib.hid (yreply_none B A cap w2 (by omega) ((hb12.cell (p := ⟨B, 0, none⟩) hB).trans hc))
  clear hb1 hn1 hb2 hn2 hn12 hb12 hz2 hc
  go_enter_defers Tryd.func26, Tryd.ntmps26
  go_wp2_with fail
  refine HR.out.mono ?_
  clear hw1 hw2 hz1
  rintro e w3 ⟨hth, hb3⟩
  have hz2 := HZ2.out
  have hz3 := hb3.size
  have c1 := (hb3.block w.heap.size (by omega)).trans HN1.out
  have c2 := (hb3.block (w.heap.size + 1) (by omega)).trans HN2.out
  have r0 : w3.cell? ⟨w.heap.size, 0, none⟩ = some (.int .i64 0) := cell_in c1
  have r1 : w3.cell? ⟨w.heap.size, 1, none⟩ = some (.string ⟨#[]⟩) := cell_in c1
  have r2 : w3.cell? ⟨w.heap.size, 2, none⟩ = some (.int .i64 0) := cell_in c1
  have r3 : w3.cell? ⟨w.heap.size, 3, none⟩ = some (.slice none 0 0) := cell_in c1
  have q0 : w3.cell? ⟨w.heap.size + 1, 0, none⟩ = some (.int .i64 0) := cell_in c2
  have t0 : w3.frozen? ⟨w.heap.size + 1, 0, none⟩ = false := mark_in c2
  have HBW := Lib.hid (HB12.out.trans (hb3.mono (by omega)))
  unfold ThrownR at hth
  subst hth
  clear c1 c2 HR hb3
  go_wp2
  refine leaves_cons (f := 36) (args := #[.pointer (some ⟨w.heap.size + 1, 0, none⟩)]) (by simp) (by simp [go_sem]) ?_
  refine (ydeferred_panic (w.heap.size + 1) (.int .i64 0) 31 w3 q0 t0).mono ?_
  rintro e u' w'' ⟨rfl, rfl, rfl⟩
  simp [Leaves, settle, results, Tryd.results26, go_sem, r0, r1, r2, r3, q0, leafV]
  exact HBW.out.setCell (Nat.le_succ _) _

set_option maxRecDepth 100000 in
set_option maxHeartbeats 8000000 in
theorem ydecode_none (A : Option Addr) (cap : Nat) (w : World) :
    Calls Tryd.prog 15 #[.slice A 0 cap] w fun en w' => Below w.heap.size w w' ∧ en = .returned (.tuple #[leafV 0 ⟨#[]⟩ 0, .int .i64 0, .int .i64 31]) := by
  obtain ⟨w1, hw1⟩ : ∃ w1, w.alloc (.cells #[.int .i64 0, .string ⟨#[]⟩, .int .i64 0, .slice none 0 0] 25) = w1 := ⟨_, rfl⟩
  have hz1 : w1.heap.size = w.heap.size + 1 := by rw [← hw1]; simp
  have hb1 : Below w.heap.size w w1 := by rw [← hw1]; exact (Below.refl _ _).alloc (Nat.le_refl _) _
  have hn1 : w1.heap[w.heap.size]? = some (.cells #[.int .i64 0, .string ⟨#[]⟩, .int .i64 0, .slice none 0 0] 25) := by rw [← hw1]; exact World.alloc_heap_new w _
  obtain ⟨w2, hw2⟩ : ∃ w2, w1.alloc (.cells #[.slice A 0 cap, .int .i64 0] 55) = w2 := ⟨_, rfl⟩
  have hz2 : w2.heap.size = w.heap.size + 2 := by rw [← hw2, World.size_alloc, hz1]
  have hb2 : Below w1.heap.size w1 w2 := by rw [← hw2]; exact (Below.refl _ _).alloc (Nat.le_refl _) _
  have hn2 : w2.heap[w1.heap.size]? = some (.cells #[.slice A 0 cap, .int .i64 0] 55) := by rw [← hw2]; exact World.alloc_heap_new w1 _
  have hn12 := (hb2.block w.heap.size (by omega)).trans hn1
  rw [hz1] at hn2
  have hb12 : Below w.heap.size w w2 := hb1.trans (hb2.mono (by omega))
  have hcB : w2.cell? ⟨w.heap.size + 1, 0, none⟩ = some (.slice A 0 cap) := (cell_in hn2).trans rfl
  have HR := Lib.hid (ywhole_none (w.heap.size + 1) A cap w2 (by omega) hcB)
  have HB12 := Lib.hid hb12
  have HN1 := Lib.hid hn12
  have HCB := Lib.hid hcB
  have HZ2 := Lib.hid hz2
  have HW1 := Lib.hid hw1
  have HW2 := Lib.hid hw2
  clear hb1 hn1 hb2 hn2 hn12 hb12 hz2 hw1 hw2 hz1 hcB
  go_enter Tryd.func15, Tryd.ntmps15
  go_wp2_with fail
  rw [HW1.out, HW2.out]
  refine HR.out.mono ?_
  rintro e w3 ⟨rfl, hb3⟩
  have hz2 := HZ2.out
  have hz3 := hb3.size
  have hc3 := (hb3.cell (p := ⟨w.heap.size + 1, 0, none⟩) (by show w.heap.size + 1 < w2.heap.size; omega)).trans HCB.out
  have c1 := (hb3.block w.heap.size (by omega)).trans HN1.out
  have r0 : w3.cell? ⟨w.heap.size, 0, none⟩ = some (.int .i64 0) := cell_in c1
  have r1 : w3.cell? ⟨w.heap.size, 1, none⟩ = some (.string ⟨#[]⟩) := cell_in c1
  have r2 : w3.cell? ⟨w.heap.size, 2, none⟩ = some (.int .i64 0) := cell_in c1
  have r3 : w3.cell? ⟨w.heap.size, 3, none⟩ = some (.slice none 0 0) := cell_in c1
  have s0 : w3.frozen? ⟨w.heap.size, 0, none⟩ = false := mark_in c1
  have s1 : w3.frozen? ⟨w.heap.size, 1, none⟩ = false := mark_in c1
  have s2 : w3.frozen? ⟨w.heap.size, 2, none⟩ = false := mark_in c1
  have s3 : w3.frozen? ⟨w.heap.size, 3, none⟩ = false := mark_in c1
  have HBW := Lib.hid (HB12.out.trans (hb3.mono (by omega)))
  have hlt3 : w.heap.size < w3.heap.size := by omega
  have hlt4 : w.heap.size + 1 < w3.heap.size := by omega
  clear c1 HR hz2 hz3 hb3
  unfold leafV
  go_wp2
  go_region
  all_goals
    go_wp2
    obtain ⟨Z, hZ⟩ : ∃ Z, (((w3.setCell ⟨w.heap.size, 0, none⟩ (.int .i64 0)).setCell ⟨w.heap.size, 1, none⟩ (.string ⟨#[]⟩)).setCell ⟨w.heap.size, 2, none⟩ (.int .i64 0)).setCell ⟨w.heap.size, 3, none⟩ (.slice none 0 0) = Z := ⟨_, rfl⟩
    have zs : Z.heap.size = w3.heap.size := by rw [← hZ]; simp [World.setCell]
    have x0 : Z.cell? ⟨w.heap.size, 0, none⟩ = some (.int .i64 0) := by rw [← hZ]; simp [go_sem, r0]
    have x1 : Z.cell? ⟨w.heap.size, 1, none⟩ = some (.string ⟨#[]⟩) := by rw [← hZ]; simp [go_sem, r1]
    have x2 : Z.cell? ⟨w.heap.size, 2, none⟩ = some (.int .i64 0) := by rw [← hZ]; simp [go_sem, r2]
    have x3 : Z.cell? ⟨w.heap.size, 3, none⟩ = some (.slice none 0 0) := by rw [← hZ]; simp [go_sem, r3]
    have hbz : Below w.heap.size w Z := by rw [← hZ]; exact (((HBW.out.setCell (Nat.le_refl _) _).setCell (Nat.le_refl _) _).setCell (Nat.le_refl _) _).setCell (Nat.le_refl _) _
    rw [hZ]
    have hbo : Below w.heap.size w (Z.alloc (.cells #[.int .i64 0, .string ⟨#[]⟩, .int .i64 0, .slice none 0 0] 25)) := hbz.alloc (by omega) _
    have y0 := (World.cell?_alloc_lt Z (.cells #[.int .i64 0, .string ⟨#[]⟩, .int .i64 0, .slice none 0 0] 25) ⟨w.heap.size, 0, none⟩ (by show w.heap.size < Z.heap.size; omega)).trans x0
    have y1 := (World.cell?_alloc_lt Z (.cells #[.int .i64 0, .string ⟨#[]⟩, .int .i64 0, .slice none 0 0] 25) ⟨w.heap.size, 1, none⟩ (by show w.heap.size < Z.heap.size; omega)).trans x1
    have y2 := (World.cell?_alloc_lt Z (.cells #[.int .i64 0, .string ⟨#[]⟩, .int .i64 0, .slice none 0 0] 25) ⟨w.heap.size, 2, none⟩ (by show w.heap.size < Z.heap.size; omega)).trans x2
    have y3 := (World.cell?_alloc_lt Z (.cells #[.int .i64 0, .string ⟨#[]⟩, .int .i64 0, .slice none 0 0] 25) ⟨w.heap.size, 3, none⟩ (by show w.heap.size < Z.heap.size; omega)).trans x3
    refine bodyPost_ret (v := .tuple #[leafV 0 ⟨#[]⟩ 0, .int .i64 0, .int .i64 31]) ?_ rfl ⟨by first | exact hbo.drew | exact hbo, rfl⟩
    simp [results, Tryd.results15, go_sem, y0, y1, y2, y3, leafV]

theorem mustS_le {bs : List UInt8} {c : Nat} {s : Nat × Nat} (h : s.1 ≤ bs.length) : (mustS bs c s).1 ≤ bs.length := by
  unfold mustS
  split
  · split
    · exact h
    · split
      · show s.1 + 1 ≤ _; omega
      · exact h
  · exact h

theorem endS_le {bs : List UInt8} {s : Nat × Nat} (h : s.1 ≤ bs.length) : (endS bs s).1 ≤ bs.length := mustS_le (mustS_le h)

theorem digL_cnt (most : Nat) : ∀ (l : List UInt8) (n : Nat) (f : Bool), (digL most n f l).2.1 ≤ l.length
  | [], n, f => by simp [digL]
  | c :: r, n, f => by
    rw [digL]
    split
    · have := digL_cnt most r (n * 10 + (c.toNat - 48)) false
      simp only [List.length_cons]
      omega
    · simp

theorem digS_pl {bs : List UInt8} {most : Nat} {s : Nat × Nat} (h : s.1 ≤ bs.length) : (digS bs most s).2.1 ≤ bs.length := by
  unfold digS
  split
  · have := digL_cnt most (bs.drop s.1) 0 true
    rw [List.length_drop] at this
    show s.1 + _ ≤ _
    omega
  · exact h

theorem byteS_pl (bs : List UInt8) (s : Nat × Nat) : (byteS bs s).2.1 = s.1 := by
  unfold byteS
  split
  · split <;> rfl
  · rfl

theorem byte_in {bs : List UInt8} {s : Nat × Nat} {c : Nat} (hc : 0 < c) (h : (byteS bs s).1 = c) : s.1 < bs.length := (byteS_some (i := s.1) (e := s.2) hc h).2.1

theorem countS_pl {bs : List UInt8} {most : Nat} {s : Nat × Nat} (h : s.1 ≤ bs.length) : (countS bs most s).2.1 ≤ bs.length := by
  unfold countS
  split
  · rename_i g
    exact mustS_le (by have := byte_in (by decide) g; show s.1 + 1 ≤ _; omega)
  · exact digS_pl (by rw [byteS_pl]; exact h)

theorem integerS_pl {bs : List UInt8} {s : Nat × Nat} (h : s.1 ≤ bs.length) : (integerS bs s).2.1 ≤ bs.length := by
  unfold integerS
  split
  · rename_i g
    have h1 := byte_in (by decide) g
    split
    · unfold failS
      split
      · show s.1 + 1 ≤ _; omega
      · show s.1 + 1 ≤ _; omega
    · exact digS_pl (by rw [byteS_pl]; show s.1 + 1 ≤ _; omega)
  · exact digS_pl (by rw [byteS_pl]; exact h)

theorem textS_pl {bs : List UInt8} {i : Nat} (h : i ≤ bs.length) : (textS bs i).1 ≤ bs.length := by
  rw [(textS_end bs i).1]
  have := (lineN_le (bs.drop i)).1
  rw [List.length_drop] at this
  exact endS_le (by show i + _ ≤ _; omega)

theorem dblkS_pl {bs : List UInt8} {i : Nat} (h : i ≤ bs.length) : (dblkS bs i).2.1 ≤ bs.length := by
  unfold dblkS
  have h1 : (endS bs (countS bs 65536 (i, 0)).2).1 ≤ bs.length := endS_le (countS_pl h)
  split
  · exact h1
  · split
    · exact Nat.le_refl _
    · rename_i g1 g2
      exact endS_le (by show _ + _ ≤ _; omega)

theorem timesS_pl {bs : List UInt8} {f : Nat → RT × (Nat × Nat)} (hf : ∀ j, j ≤ bs.length → (f j).2.1 ≤ bs.length) : ∀ (n : Nat) (s : Nat × Nat), s.1 ≤ bs.length → (timesS f n s).2.1 ≤ bs.length
  | 0, s, h => h
  | n + 1, s, h => by
    rw [timesS]
    split
    · exact timesS_pl hf n _ (hf _ h)
    · exact h

theorem arrayS_pl {bs : List UInt8} {f : Nat → RT × (Nat × Nat)} (hf : ∀ j, j ≤ bs.length → (f j).2.1 ≤ bs.length) {i : Nat} (h : i ≤ bs.length) : (arrayS f bs i).2.1 ≤ bs.length := by
  unfold arrayS
  have h1 : (endS bs (countS bs 131072 (i, 0)).2).1 ≤ bs.length := endS_le (countS_pl h)
  split
  · exact h1
  · exact timesS_pl hf _ _ h1

theorem replyS_pl (bs : List UInt8) : ∀ (left i : Nat), i ≤ bs.length → (replyS bs left i).2.1 ≤ bs.length := by
  intro left
  induction left with
  | zero =>
    intro i h
    by_cases hl : bs.length ≤ i
    · rw [replyS_short bs 0 i hl]; exact h
    · rw [replyS_eq bs 0 i _ hl rfl]
      split
      · exact textS_pl (by omega)
      · split
        · exact textS_pl (by omega)
        · split
          · exact endS_le (integerS_pl (by show i + 1 ≤ _; omega))
          · split
            · exact dblkS_pl (by omega)
            · split
              · exact endS_le (mustS_le (mustS_le (by show i + 1 ≤ _; omega)))
              · exact h
  | succ l ih =>
    intro i h
    by_cases hl : bs.length ≤ i
    · rw [replyS_short bs (l + 1) i hl]; exact h
    · rw [replyS_eq bs (l + 1) i _ hl rfl]
      split
      · exact textS_pl (by omega)
      · split
        · exact textS_pl (by omega)
        · split
          · exact endS_le (integerS_pl (by show i + 1 ≤ _; omega))
          · split
            · exact dblkS_pl (by omega)
            · split
              · exact arrayS_pl ih (by omega)
              · exact h

theorem decS_eq (bs : List UInt8) : (decS bs).1 = outT (replyS bs 8 0) ∧ (decS bs).2 = (replyS bs 8 0).2 := by
  unfold decS outT
  split <;> exact ⟨rfl, rfl⟩

theorem ydecode_any (A : Option Addr) (b o cap : Nat) (bs : List UInt8) (w : World) (h6 : 6 ≤ w.heap.size) (hA : 0 < bs.length → A = some ⟨b, o, none⟩) (hb : 0 < bs.length → b < w.heap.size) (hat : BytesAt w b o bs) (hcl : bs.length ≤ cap) (hcm : cap ≤ 9223372036854775807) (hT : Tabs8 w) :
    Calls Tryd.prog 15 #[.slice A bs.length cap] w fun en w' => Below w.heap.size w w' ∧ ∃ (k : Nat) (T : ByteArray) (n : Int) (A' : Option Addr) (l c : Nat),
      en = .returned (.tuple #[.agg #[.int .i64 k, .string T, .int .i64 n, .slice A' l c], .int .i64 (decS bs).2.1, .int .i64 (decS bs).2.2]) ∧
      RepAt w' (fun g => w.heap.size ≤ g) (decS bs).1 [.int .i64 k, .string T, .int .i64 n, .slice A' l c] := by
  obtain ⟨e1, e2⟩ := decS_eq bs
  rw [e1, e2]
  cases bs with
  | nil =>
    refine (ydecode_none A cap w).mono ?_
    rintro e w' ⟨h1, rfl⟩
    refine ⟨h1, 0, ⟨#[]⟩, 0, none, 0, 0, ?_, ?_⟩
    · rw [replyS_short [] 8 0 (Nat.le_refl _)]; rfl
    · rw [replyS_short [] 8 0 (Nat.le_refl _)]; exact .leaf 0 [] 0 ⟨#[]⟩ rfl
  | cons x r =>
    obtain rfl := hA (by simp)
    exact ydecode_some b o cap (x :: r) w h6 (hb (by simp)) hat hcl hcm hT (replyS_pl _ 8 0 (Nat.zero_le _))

end Go.Proofs.YtppbcdollomebaaDoor
