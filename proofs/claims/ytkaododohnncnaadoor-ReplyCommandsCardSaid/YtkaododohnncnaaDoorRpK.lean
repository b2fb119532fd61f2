/-
  The walk of what every statement of layer 2 asks besides: awake; and of cut. No condition.
-/
import Derived.Test.YtkaododohnncnaaDoorRpI
import Derived.Lib.SlBytesConst
namespace Go.Proofs.YtkaododohnncnaaDoor
open Go.RowKit

/-- A row of requests, read cell by cell. -/
theorem OwnsReqs.read {w : World} {base : Nat} {v : Value} {L : List (List (List UInt8))} (h : OwnsReqs w base v L) (h0 : L ≠ []) :
    ∃ g c, v = .slice (some ⟨g, 0, none⟩) L.length c ∧ ∀ (i : Nat) (r : List (List UInt8)), L[i]? = some r → ∃ u, w.cell? ⟨g, i, none⟩ = some u ∧ w.ownsRow base 9 1 u r.length (r.map strV) := by
  obtain ⟨vs, h1, h2, h3⟩ := h
  obtain ⟨A, c, rfl⟩ := ownsRow_form h2
  rcases h2.2 with ⟨_, h4⟩ | ⟨g, cap, cur, h4, _⟩
  · exact absurd (List.length_eq_zero_iff.1 h4) h0
  · simp only [Value.slice.injEq, true_and] at h4
    obtain ⟨rfl, rfl⟩ := h4
    refine ⟨g, c, rfl, fun i r hr => ?_⟩
    have hi : i < vs.length := by rw [h1]; exact (List.getElem?_eq_some_iff.1 hr).1
    have hv : vs[i]? = some vs[i] := List.getElem?_eq_getElem hi
    refine ⟨vs[i], ?_, h3 i _ r hv hr⟩
    have := h2.cells (g := g) rfl i _ hv
    rwa [Go.WideShapes.add_plain, Nat.zero_add] at this
theorem row_read {w : World} {base : Nat} {v : Value} {r : List (List UInt8)} (h : w.ownsRow base 9 1 v r.length (r.map strV)) (h0 : r ≠ []) :
    ∃ g c, v = .slice (some ⟨g, 0, none⟩) r.length c ∧ ∀ (j : Nat) (t : List UInt8), r[j]? = some t → w.cell? ⟨g, j, none⟩ = some (strV t) := by
  obtain ⟨A, c, rfl⟩ := ownsRow_form h
  rcases h.2 with ⟨_, h4⟩ | ⟨g, cap, cur, h4, _⟩
  · exact absurd (List.length_eq_zero_iff.1 h4) h0
  · simp only [Value.slice.injEq, true_and] at h4
    obtain ⟨rfl, rfl⟩ := h4
    refine ⟨g, c, rfl, fun j t ht => ?_⟩
    have hv : (r.map strV)[j]? = some (strV t) := by rw [List.getElem?_map, ht]; rfl
    have := h.cells (g := g) rfl j _ hv
    rwa [Go.WideShapes.add_plain, Nat.zero_add] at this
theorem OwnsReqs.len {w : World} {base : Nat} {v : Value} {L : List (List (List UInt8))} (h : OwnsReqs w base v L) : ∃ A c, v = .slice A L.length c := by
  obtain ⟨vs, _, h2, _⟩ := h
  exact ownsRow_form h2

/-- Bytes that are laid anew read as they are. -/
theorem bytes_new (w : World) (l : List UInt8) (z : Nat × Nat) : BytesAt (w.alloc (.cells (l.map fun c => Value.int .u8 (c.toNat : Int)).toArray 5 z)) w.heap.size 0 l := fun j hj => by
  rw [cell_in (World.alloc_heap_new w _)]
  simp [List.getElem?_eq_getElem hj, List.getD_eq_getElem?_getD]

def awL : List UInt8 := [42, 50, 13, 10, 36, 51, 13, 10, 71, 69, 84, 13, 10, 36, 49, 13, 10, 97, 13, 10, 115, 101, 116, 32, 97, 32, 34, 98, 32, 99, 34, 10, 42, 49]
def awR : List (List (List UInt8)) := [[[71, 69, 84], [97]], [[115, 101, 116], [97], [98, 32, 99]]]
theorem aw_split : splitS awL = (awR, 32, []) := by kernel_rfl
theorem pi_split : splitS [80, 73] = ([], 0, []) := by kernel_rfl
theorem ping_split : splitS [80, 73, 78, 71, 10] = ([[[80, 73, 78, 71]]], 5, []) := by kernel_rfl

theorem RdS.on {w w1 : World} {G : Nat} {kv : Value} {kept : List UInt8} {done : Bool} (h : RdS w G kv kept done) (k : Below w.heap.size w w1) : RdS w1 G kv kept done where
  lt := Nat.lt_of_lt_of_le h.lt k.size
  c0 := (k.cell (p := ⟨G, 0, none⟩) h.lt).trans h.c0
  c1 := (k.cell (p := ⟨G, 1, none⟩) h.lt).trans h.c1
  c2 := (k.cell (p := ⟨G, 2, none⟩) h.lt).trans h.c2
  f1 := (k.frozen (p := ⟨G, 1, none⟩) h.lt).trans h.f1
  f2 := (k.frozen (p := ⟨G, 2, none⟩) h.lt).trans h.f2
  own := ownsRow_below h.own k

set_option maxRecDepth 100000 in
set_option maxHeartbeats 4000000 in
theorem awake_any (w : World) : Calls Tryd.prog 10 #[] w fun e w' => e = .returned (.bool true) ∧ Below w.heap.size w w' := by
  have hcv := fun (w : World) (C : Array Value) (n c : Nat) => Lib.run_convert_bytes_const (P := Tryd.prog) w 23 5 C n c Tryd.underlying23 Tryd.underlying5
  obtain ⟨w1, hw1⟩ : ∃ w1, w1 = w.alloc (.cells (awL.map fun c => Value.int .u8 (c.toNat : Int)).toArray 5 (34, 35)) := ⟨_, rfl⟩
  have hz1 : w1.heap.size = w.heap.size + 1 := by rw [hw1]; simp
  have hb1 : Below w.heap.size w w1 := by rw [hw1]; exact (Below.refl _ _).alloc (Nat.le_refl _) _
  have HSP := Lib.hid (psplit_any w.heap.size 0 34 awL w1 (by decide) (by decide) (by decide) (by omega) (by rw [hw1]; exact bytes_new w awL (34, 35)))
  rw [aw_split, hw1] at HSP
  go_enter Tryd.func10, Tryd.ntmps10
  go_wp2_with fail
  refine HSP.out.mono ?_
  rw [← hw1]
  clear HSP hw1
  rintro e w2 ⟨hb2, vl, rfl, hvl⟩
  have hz2 := hb2.size
  obtain ⟨ga, ca, rfl, hra⟩ := hvl.read (by decide)
  obtain ⟨ua, hua, hrow⟩ := hra 1 [[115, 101, 116], [97], [98, 32, 99]] rfl
  obtain ⟨gb, cb, rfl, hrb⟩ := row_read hrow (by decide)
  have hub := hrb 2 [98, 32, 99] rfl
  have HVL := Lib.hid hvl
  have hga : ga < w2.heap.size := by
    obtain ⟨vs, _, h2, _⟩ := hvl
    exact (own_lt h2 rfl).2
  have hgb : gb < w2.heap.size := (own_lt hrow rfl).2
  have hbase : Below w.heap.size w w2 := hb1.trans (hb2.mono (by omega))
  clear hvl hra hrb hrow
  go_wp2_with fail
  refine (pnew_any w2).mono ?_
  rintro e w3 ⟨rfl, hw3⟩
  have R3 := rds_new w2
  rw [← hw3] at R3
  have hb3 : Below w2.heap.size w2 w3 := by rw [hw3]; exact (Below.refl _ _).alloc (Nat.le_refl _) _
  have hz3 : w3.heap.size = w2.heap.size + 1 := by rw [hw3]; simp
  obtain ⟨w4, hw4⟩ : ∃ w4, w4 = w3.alloc (.cells (([80, 73] : List UInt8).map fun c => Value.int .u8 (c.toNat : Int)).toArray 5 (2, 3)) := ⟨_, rfl⟩
  have hb4 : Below w3.heap.size w3 w4 := by rw [hw4]; exact (Below.refl _ _).alloc (Nat.le_refl _) _
  have hz4 : w4.heap.size = w3.heap.size + 1 := by rw [hw4]; simp
  have HF1 := Lib.hid (pfeed_some w2.heap.size (.slice none 0 0) [] w3.heap.size 0 2 [80, 73] w4 (R3.on hb4) (by rw [hw4]; exact bytes_new w3 [80, 73] (2, 3)) (by decide))
  unfold FeedPost at HF1
  rw [List.nil_append, pi_split, hw4] at HF1
  have HZ3 := Lib.hid hz3
  have HZ4 := Lib.hid hz4
  clear hw3 R3 hz3 hz4
  go_wp2_with fail
  refine HF1.out.mono ?_
  rw [← hw4]
  clear HF1 hw4
  have hz3 := HZ3.out
  have hz4 := HZ4.out
  rintro e w5 ⟨hm5, ⟨va, rfl, hva⟩, kv5, hr5, hk5⟩
  obtain ⟨Aa, caa, rfl⟩ := hva.len
  have hre : restS [80, 73] = [80, 73] := by unfold restS; rw [pi_split]; rfl
  rw [hre] at hr5
  have hz5 := hm5.size
  have HZ5 := Lib.hid hz5
  have hb5 : Below w2.heap.size w4 w5 := hm5.low (Nat.le_refl _) (fun k hk => by cases hk)
  obtain ⟨w6, hw6⟩ : ∃ w6, w6 = w5.alloc (.cells (([78, 71, 10] : List UInt8).map fun c => Value.int .u8 (c.toNat : Int)).toArray 5 (3, 4)) := ⟨_, rfl⟩
  have hb6 : Below w5.heap.size w5 w6 := by rw [hw6]; exact (Below.refl _ _).alloc (Nat.le_refl _) _
  have hz6 : w6.heap.size = w5.heap.size + 1 := by rw [hw6]; simp
  have HF2 := Lib.hid (pfeed_some w2.heap.size kv5 [80, 73] w5.heap.size 0 3 [78, 71, 10] w6 (hr5.on hb6) (by rw [hw6]; exact bytes_new w5 [78, 71, 10] (3, 4)) (by decide))
  unfold FeedPost at HF2
  rw [show ([80, 73] : List UInt8) ++ [78, 71, 10] = [80, 73, 78, 71, 10] from rfl, ping_split, hw6] at HF2
  have hkk : ∀ k, kv5.ownBlock = some k → w2.heap.size ≤ k := fun k hk => by
    rcases hk5 k hk with h | h
    · cases h
    · omega
  have HZ6 := Lib.hid hz6
  clear hm5 hva hr5 hre hk5 hz3 hz4 hz5 hz6
  go_wp2_with fail
  refine HF2.out.mono ?_
  rw [← hw6]
  clear HF2 hw6
  have hz3 := HZ3.out
  have hz4 := HZ4.out
  have hz6 := HZ6.out
  have hz5 := HZ5.out
  rintro e w7 ⟨hm7, ⟨vb, rfl, hvb⟩, _⟩
  obtain ⟨gc, cc, rfl, hrc⟩ := hvb.read (by decide)
  obtain ⟨uc, huc, hrowc⟩ := hrc 0 [[80, 73, 78, 71]] rfl
  obtain ⟨gd, cd, rfl, hrd⟩ := row_read hrowc (by decide)
  have hud := hrd 0 [80, 73, 78, 71] rfl
  have hz7 := hm7.size
  have hb7 : Below w2.heap.size w6 w7 := hm7.low (Nat.le_refl _) (fun k hk => hkk k hk)
  have hall : Below w2.heap.size w2 w7 := (((hb3.trans (hb4.mono (by omega))).trans hb5).trans (hb6.mono (by omega))).trans hb7
  have hua7 := (hall.cell (p := ⟨ga, 1, none⟩) hga).trans hua
  have hub7 := (hall.cell (p := ⟨gb, 2, none⟩) hgb).trans hub
  have HFIN := Lib.hid (hbase.trans (hall.mono hbase.size))
  unfold strV at hub7 hud
  clear hm7 hvb hrc hrowc hrd hall hb7 hb6 hb5 hb4 hb3 hb2 hb1 hkk hua hub HVL hcv
  simp only [awR, List.length_cons, List.length_nil] at *
  go_wp2
  go_ret
  exact ⟨rfl, HFIN.out⟩

end Go.Proofs.YtkaododohnncnaaDoor
