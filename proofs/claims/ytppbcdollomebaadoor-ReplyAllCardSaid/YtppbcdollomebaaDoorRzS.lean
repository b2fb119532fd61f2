/-
  The walk of the statement ReplyDecodes: it answers true. Conditions: the bytes lie in memory; the listed variables hold what the program's own text lays; the search's own measure holds a number.
-/
import Derived.Test.YtppbcdollomebaaDoorRzQ
import Derived.Test.YtppbcdollomebaaDoorRyG
namespace Go.Proofs.YtppbcdollomebaaDoor
open Go.RowKit

theorem pows_lt' {W : World} (h : Pows W) : 1 < W.heap.size := by
  have := Lib.TabIs.cell h gPow 0 (by rw [Lib.pow10Tab_length]; decide)
  exact World.block_lt_of_cell? W _ this

set_option maxRecDepth 100000 in
set_option maxHeartbeats 8000000 in
theorem replyDecodes_walk (A : Option Addr) (b o cap : Nat) (bs : List UInt8) (w : World) (h6 : 6 ≤ w.heap.size) (hA : bs ≠ [] → A = some ⟨b, o, none⟩ ∧ b < w.heap.size) (hat : BytesAt w b o bs) (hcl : bs.length ≤ cap) (hcm : cap ≤ 140737488351232) (hT : Tabs8 w) (hp : Pows w) :
    Calls Tryd.prog 4 #[.slice A bs.length cap] w fun e w' => e = .returned (.bool true) ∧ Below w.heap.size w w' := by
  have hB := pows_lt' hp
  have HP := Lib.hid hp
  by_cases hbig : 70000 < bs.length
  · have hlb : (70000 : Int) < (bs.length : Int) := by omega
    have hne : bs ≠ [] := by rintro rfl; simp at hbig
    obtain ⟨rfl, hb⟩ := hA hne
    have hl7 : (bs.take 70000).length = 70000 := by rw [List.length_take]; omega
    have hc7 : 70000 ≤ cap := by omega
    have HD1 := Lib.hid (ydecode_any (some ⟨b, o, none⟩) b o cap (bs.take 70000) w h6 (fun _ => rfl) (fun _ => hb) (hat.take 70000) (by omega) (by omega) hT)
    have HD2 := Lib.hid (fun w1 (hb1 : Below w.heap.size w w1) => ddecode_ok (some ⟨b, o, none⟩) b o cap (bs.take 70000) w1 (fun _ => rfl) (fun _ => Nat.lt_of_lt_of_le hb hb1.size) ((hat.take 70000).below hb1 hb) (by omega) (by omega) (by omega))
    obtain ⟨L, hL⟩ : ∃ L, bs.take 70000 = L := ⟨_, rfl⟩
    rw [hL] at HD1 HD2 hl7
    rw [hl7] at HD1 HD2
    obtain ⟨tr, h1⟩ : ∃ t, (decS L).1 = t := ⟨_, rfl⟩
    obtain ⟨p, h2⟩ : ∃ t, (decS L).2.1 = t := ⟨_, rfl⟩
    obtain ⟨f, h3⟩ : ∃ t, (decS L).2.2 = t := ⟨_, rfl⟩
    rw [h1, h2, h3] at HD1 HD2
    clear hA hat hT hp hl7 hL h1 h2 h3
    go_enter Tryd.func4, Tryd.ntmps4
    go_wp2_with fail
    refine HD1.out.mono ?_
    rintro e w1 ⟨hb1, K1, T1, n1, A1, l1, c1, rfl, hx1⟩
    have HB1 := Lib.hid hb1
    obtain ⟨wx, hwx⟩ : ∃ wx, w1.alloc (.cells #[.int .i64 K1, .string T1, .int .i64 n1, .slice A1 l1 c1] 25) = wx := ⟨_, rfl⟩
    have hbx : Below w1.heap.size w1 wx := by rw [← hwx]; exact (Below.refl _ _).alloc (Nat.le_refl _) _
    have hzx : wx.heap.size = w1.heap.size + 1 := by rw [← hwx]; simp
    have hnx : wx.heap[w1.heap.size]? = some (.cells #[.int .i64 K1, .string T1, .int .i64 n1, .slice A1 l1 c1] 25) := by rw [← hwx]; exact World.alloc_heap_new w1 _
    have HBX := Lib.hid (HB1.out.trans (hbx.mono HB1.out.size))
    have HX1 := Lib.hid (hx1.keep (w' := wx) (Q := fun _ => True) hbx.size (fun _ _ _ => trivial) (fun g _ h => hbx.block g h))
    have HNX := Lib.hid hnx
    have HZX := Lib.hid hzx
    have HWX := Lib.hid hwx
    clear hb1 hx1 hwx hbx hzx hnx
    go_wp2_with fail
    rw [HWX.out]
    refine (HD2.out wx HBX.out).mono ?_
    rintro e w2 ⟨hb2, K2, T2, n2, A2, l2, c2, rfl, hx2⟩
    have hzx := HZX.out
    have hb2s := hb2.size
    obtain ⟨wy, hwy⟩ : ∃ wy, w2.alloc (.cells #[.int .i64 K2, .string T2, .int .i64 n2, .slice A2 l2 c2] 25) = wy := ⟨_, rfl⟩
    have hby : Below w2.heap.size w2 wy := by rw [← hwy]; exact (Below.refl _ _).alloc (Nat.le_refl _) _
    have hny : wy.heap[w2.heap.size]? = some (.cells #[.int .i64 K2, .string T2, .int .i64 n2, .slice A2 l2 c2] 25) := by rw [← hwy]; exact World.alloc_heap_new w2 _
    have hnxy := (hby.block w1.heap.size (by omega)).trans ((hb2.block w1.heap.size (by omega)).trans HNX.out)
    have HBY := Lib.hid (HBX.out.trans ((hb2.mono HBX.out.size).trans (hby.mono (Nat.le_trans HBX.out.size hb2.size))))
    have HX1' := Lib.hid (HX1.out.keep (w' := wy) (Q := fun _ => True) (Nat.le_trans hb2.size hby.size) (fun _ _ _ => trivial) (fun g _ h => (hby.block g (Nat.lt_of_lt_of_le h hb2.size)).trans (hb2.block g h)))
    have HX2' := Lib.hid (hx2.keep (w' := wy) (Q := fun _ => True) hby.size (fun _ _ _ => trivial) (fun g _ h => hby.block g h))
    have HSM0 := Lib.hid (rsame_all _ tr (Nat.le_refl _) wy (fun _ => True) (fun _ => True) _ _ _ _ _ _ _ _ HX1'.out HX2'.out)
    have u0 : (w2.alloc (.cells #[.int .i64 K2, .string T2, .int .i64 n2, .slice A2 l2 c2] 25)).cell? ⟨w1.heap.size, 0, none⟩ = some (.int .i64 K1) := by rw [hwy]; exact cell_in hnxy
    have u1 : (w2.alloc (.cells #[.int .i64 K2, .string T2, .int .i64 n2, .slice A2 l2 c2] 25)).cell? ⟨w1.heap.size, 1, none⟩ = some (.string T1) := by rw [hwy]; exact cell_in hnxy
    have u2 : (w2.alloc (.cells #[.int .i64 K2, .string T2, .int .i64 n2, .slice A2 l2 c2] 25)).cell? ⟨w1.heap.size, 2, none⟩ = some (.int .i64 n1) := by rw [hwy]; exact cell_in hnxy
    have u3 : (w2.alloc (.cells #[.int .i64 K2, .string T2, .int .i64 n2, .slice A2 l2 c2] 25)).cell? ⟨w1.heap.size, 3, none⟩ = some (.slice A1 l1 c1) := by rw [hwy]; exact cell_in hnxy
    have v0 : (w2.alloc (.cells #[.int .i64 K2, .string T2, .int .i64 n2, .slice A2 l2 c2] 25)).cell? ⟨w2.heap.size, 0, none⟩ = some (.int .i64 K2) := by rw [hwy]; exact cell_in hny
    have v1 : (w2.alloc (.cells #[.int .i64 K2, .string T2, .int .i64 n2, .slice A2 l2 c2] 25)).cell? ⟨w2.heap.size, 1, none⟩ = some (.string T2) := by rw [hwy]; exact cell_in hny
    have v2 : (w2.alloc (.cells #[.int .i64 K2, .string T2, .int .i64 n2, .slice A2 l2 c2] 25)).cell? ⟨w2.heap.size, 2, none⟩ = some (.int .i64 n2) := by rw [hwy]; exact cell_in hny
    have v3 : (w2.alloc (.cells #[.int .i64 K2, .string T2, .int .i64 n2, .slice A2 l2 c2] 25)).cell? ⟨w2.heap.size, 3, none⟩ = some (.slice A2 l2 c2) := by rw [hwy]; exact cell_in hny
    have HWY := Lib.hid hwy
    clear hb2 hx2 hby hny hnxy hwy hzx hb2s
    go_wp2_with fail
    rw [HWY.out]
    refine HSM0.out.mono ?_
    rintro e w3 ⟨rfl, hb3⟩
    have HB3 := Lib.hid (HBY.out.trans (hb3.mono HBY.out.size))
    have HAL := Lib.hid (yalive_any w3 (HP.out.on HB3.out hB) (Nat.lt_of_lt_of_le hB HB3.out.size))
    clear hb3 u0 u1 u2 u3 v0 v1 v2 v3
    go_wp2_with fail
    refine HAL.out.mono ?_
    rintro e w4 ⟨rfl, hb4⟩
    have HB4 := Lib.hid (HB3.out.trans (hb4.mono HB3.out.size))
    clear hb4
    go_wp2
    go_ret
    exact ⟨rfl, HB4.out⟩
  · have hlb : ¬ ((70000 : Int) < (bs.length : Int)) := by omega
    have HD1 := Lib.hid (ydecode_any A b o cap bs w h6 (fun h => (hA (by rintro rfl; simp at h)).1) (fun h => (hA (by rintro rfl; simp at h)).2) hat hcl (by omega) hT)
    have HD2 := Lib.hid (fun w1 (hb1 : Below w.heap.size w w1) => ddecode_ok A b o cap bs w1 (fun h => (hA (by rintro rfl; simp at h)).1) (fun h => Nat.lt_of_lt_of_le (hA (by rintro rfl; simp at h)).2 hb1.size) (fun j hj => (hb1.cell (p := ⟨b, o + j, none⟩) (hA (by rintro rfl; simp at hj)).2).trans (hat j hj)) (by omega) hcl (by omega))
    obtain ⟨tr, h1⟩ : ∃ t, (decS bs).1 = t := ⟨_, rfl⟩
    obtain ⟨p, h2⟩ : ∃ t, (decS bs).2.1 = t := ⟨_, rfl⟩
    obtain ⟨f, h3⟩ : ∃ t, (decS bs).2.2 = t := ⟨_, rfl⟩
    rw [h1, h2, h3] at HD1 HD2
    clear hA hat hT hp h1 h2 h3
    go_enter Tryd.func4, Tryd.ntmps4
    go_wp2_with fail
    refine HD1.out.mono ?_
    rintro e w1 ⟨hb1, K1, T1, n1, A1, l1, c1, rfl, hx1⟩
    have HB1 := Lib.hid hb1
    obtain ⟨wx, hwx⟩ : ∃ wx, w1.alloc (.cells #[.int .i64 K1, .string T1, .int .i64 n1, .slice A1 l1 c1] 25) = wx := ⟨_, rfl⟩
    have hbx : Below w1.heap.size w1 wx := by rw [← hwx]; exact (Below.refl _ _).alloc (Nat.le_refl _) _
    have hzx : wx.heap.size = w1.heap.size + 1 := by rw [← hwx]; simp
    have hnx : wx.heap[w1.heap.size]? = some (.cells #[.int .i64 K1, .string T1, .int .i64 n1, .slice A1 l1 c1] 25) := by rw [← hwx]; exact World.alloc_heap_new w1 _
    have HBX := Lib.hid (HB1.out.trans (hbx.mono HB1.out.size))
    have HX1 := Lib.hid (hx1.keep (w' := wx) (Q := fun _ => True) hbx.size (fun _ _ _ => trivial) (fun g _ h => hbx.block g h))
    have HNX := Lib.hid hnx
    have HZX := Lib.hid hzx
    have HWX := Lib.hid hwx
    clear hb1 hx1 hwx hbx hzx hnx
    go_wp2_with fail
    rw [HWX.out]
    refine (HD2.out wx HBX.out).mono ?_
    rintro e w2 ⟨hb2, K2, T2, n2, A2, l2, c2, rfl, hx2⟩
    have hzx := HZX.out
    have hb2s := hb2.size
    obtain ⟨wy, hwy⟩ : ∃ wy, w2.alloc (.cells #[.int .i64 K2, .string T2, .int .i64 n2, .slice A2 l2 c2] 25) = wy := ⟨_, rfl⟩
    have hby : Below w2.heap.size w2 wy := by rw [← hwy]; exact (Below.refl _ _).alloc (Nat.le_refl _) _
    have hny : wy.heap[w2.heap.size]? = some (.cells #[.int .i64 K2, .string T2, .int .i64 n2, .slice A2 l2 c2] 25) := by rw [← hwy]; exact World.alloc_heap_new w2 _
    have hnxy := (hby.block w1.heap.size (by omega)).trans ((hb2.block w1.heap.size (by omega)).trans HNX.out)
    have HBY := Lib.hid (HBX.out.trans ((hb2.mono HBX.out.size).trans (hby.mono (Nat.le_trans HBX.out.size hb2.size))))
    have HX1' := Lib.hid (HX1.out.keep (w' := wy) (Q := fun _ => True) (Nat.le_trans hb2.size hby.size) (fun _ _ _ => trivial) (fun g _ h => (hby.block g (Nat.lt_of_lt_of_le h hb2.size)).trans (hb2.block g h)))
    have HX2' := Lib.hid (hx2.keep (w' := wy) (Q := fun _ => True) hby.size (fun _ _ _ => trivial) (fun g _ h => hby.block g h))
    have HSM0 := Lib.hid (rsame_all _ tr (Nat.le_refl _) wy (fun _ => True) (fun _ => True) _ _ _ _ _ _ _ _ HX1'.out HX2'.out)
    have u0 : (w2.alloc (.cells #[.int .i64 K2, .string T2, .int .i64 n2, .slice A2 l2 c2] 25)).cell? ⟨w1.heap.size, 0, none⟩ = some (.int .i64 K1) := by rw [hwy]; exact cell_in hnxy
    have u1 : (w2.alloc (.cells #[.int .i64 K2, .string T2, .int .i64 n2, .slice A2 l2 c2] 25)).cell? ⟨w1.heap.size, 1, none⟩ = some (.string T1) := by rw [hwy]; exact cell_in hnxy
    have u2 : (w2.alloc (.cells #[.int .i64 K2, .string T2, .int .i64 n2, .slice A2 l2 c2] 25)).cell? ⟨w1.heap.size, 2, none⟩ = some (.int .i64 n1) := by rw [hwy]; exact cell_in hnxy
    have u3 : (w2.alloc (.cells #[.int .i64 K2, .string T2, .int .i64 n2, .slice A2 l2 c2] 25)).cell? ⟨w1.heap.size, 3, none⟩ = some (.slice A1 l1 c1) := by rw [hwy]; exact cell_in hnxy
    have v0 : (w2.alloc (.cells #[.int .i64 K2, .string T2, .int .i64 n2, .slice A2 l2 c2] 25)).cell? ⟨w2.heap.size, 0, none⟩ = some (.int .i64 K2) := by rw [hwy]; exact cell_in hny
    have v1 : (w2.alloc (.cells #[.int .i64 K2, .string T2, .int .i64 n2, .slice A2 l2 c2] 25)).cell? ⟨w2.heap.size, 1, none⟩ = some (.string T2) := by rw [hwy]; exact cell_in hny
    have v2 : (w2.alloc (.cells #[.int .i64 K2, .string T2, .int .i64 n2, .slice A2 l2 c2] 25)).cell? ⟨w2.heap.size, 2, none⟩ = some (.int .i64 n2) := by rw [hwy]; exact cell_in hny
    have v3 : (w2.alloc (.cells #[.int .i64 K2, .string T2, .int .i64 n2, .slice A2 l2 c2] 25)).cell? ⟨w2.heap.size, 3, none⟩ = some (.slice A2 l2 c2) := by rw [hwy]; exact cell_in hny
    have HWY := Lib.hid hwy
    clear hb2 hx2 hby hny hnxy hwy hzx hb2s
    go_wp2_with fail
    rw [HWY.out]
    refine HSM0.out.mono ?_
    rintro e w3 ⟨rfl, hb3⟩
    have HB3 := Lib.hid (HBY.out.trans (hb3.mono HBY.out.size))
    have HAL := Lib.hid (yalive_any w3 (HP.out.on HB3.out hB) (Nat.lt_of_lt_of_le hB HB3.out.size))
    clear hb3 u0 u1 u2 u3 v0 v1 v2 v3
    go_wp2_with fail
    refine HAL.out.mono ?_
    rintro e w4 ⟨rfl, hb4⟩
    have HB4 := Lib.hid (HB3.out.trans (hb4.mono HB3.out.size))
    clear hb4
    go_wp2
    go_ret
    exact ⟨rfl, HB4.out⟩

end Go.Proofs.YtppbcdollomebaaDoor
