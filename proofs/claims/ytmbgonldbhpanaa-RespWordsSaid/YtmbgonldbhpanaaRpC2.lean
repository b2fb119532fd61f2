/-
  The walk of the statement RespWords: it answers true. Condition: the text is a text.
-/
import Derived.Test.YtmbgonldbhpanaaRpM
import Derived.Laws.IdiomStrings
namespace Go.Proofs.Ytmbgonldbhpanaa
open Go.RowKit

/-- A text's bytes, laid anew. -/
theorem str_bytes (w : World) (T : ByteArray) (N : Nat) (x : List UInt8) (hN : T.size = N) (hx : T.data.toList = x) (hm : N ≤ 9223372036854775807) :
    ∃ C W1, (convert 9 22 (.string T)).run Try.prog w = .ok (.slice (some ⟨w.heap.size, 0, none⟩) N C) W1 ∧ Below w.heap.size w W1 ∧ W1.heap.size = w.heap.size + 1 ∧ BytesAt W1 w.heap.size 0 x ∧ N ≤ C ∧ C ≤ 9223372036854775807 := by
  have h := run_bytes_of_string (P := Try.prog) w 9 22 5 T Try.underlying9 Try.underlying22 Try.underlying5
  rw [hN] at h
  refine ⟨_, _, h, (Below.refl _ _).drew.alloc (Nat.le_refl _) _, by simp, fun j hj => ?_, grownCap_ge _ _ _ _, ?_⟩
  · have hnew := World.alloc_heap_new w.drew (.cells (bytesRow T (grownCap w N 0 5)) 5 ((bytesRow T (grownCap w N 0 5)).size, (bytesRow T (grownCap w N 0 5)).size + 1))
    rw [Nat.zero_add]
    refine (cell_in hnew).trans ?_
    have hjs : j < T.data.size := by rw [← hx, Array.length_toList] at hj; exact hj
    unfold bytesRow
    rw [Array.getElem?_append_left (by rw [Array.size_map]; exact hjs), Array.getElem?_map, Array.getElem?_eq_getElem hjs]
    rw [← hx, List.getD_eq_getElem?_getD, Array.getElem?_toList, Array.getElem?_eq_getElem hjs]
    rfl
  · exact grownCap_le_maxLen w N 0 _ (by unfold maxLen; exact hm)

set_option maxRecDepth 100000 in
set_option maxHeartbeats 4000000 in
theorem respWords_short (s : ByteArray) (w : World) (hs : s.size ≤ 70000) :
    Calls Try.prog 7 #[.string s] w fun e w' => e = .returned (.bool true) ∧ Below w.heap.size w w' := by
  have hysz : (s).size ≤ 70000 := by exact hs
  obtain ⟨N, hN⟩ : ∃ N, ((⟨#[32]⟩ : ByteArray) ++ (s) ++ ⟨#[10]⟩).size = N := ⟨_, rfl⟩
  have hNb : N ≤ 70002 := by
    rw [← hN, ByteArray.size_append, ByteArray.size_append]
    show 1 + (s).size + 1 ≤ 70002
    omega
  obtain ⟨x, hx⟩ : ∃ x, ((⟨#[32]⟩ : ByteArray) ++ (s) ++ ⟨#[10]⟩).data.toList = x := ⟨_, rfl⟩
  have hxl : x.length = N := by rw [← hx, Array.length_toList]; exact hN
  have HSB := Lib.hid (fun w => str_bytes w ((⟨#[32]⟩ : ByteArray) ++ (s) ++ ⟨#[10]⟩) N x hN hx (by omega))
  obtain ⟨C1, W1, hcv1, hbw1, hzw1, hby1, hc1, hm1⟩ := HSB.out w
  have HSP := Lib.hid (psplit_any w.heap.size 0 C1 x W1 (by omega) hm1 (by omega) (by omega) hby1)
  rw [hxl] at HSP
  have hrows := splitS_rows x
  obtain ⟨S, hS⟩ : ∃ S, splitS x = S := ⟨_, rfl⟩
  obtain ⟨L, n, F⟩ := S
  rw [hS] at HSP hrows
  have HS := Lib.hid hS
  have HROW := Lib.hid hrows
  have HX := Lib.hid hxl
  have HBW := Lib.hid hbw1
  have HZW := Lib.hid hzw1
  clear hS hrows hxl hx hN hysz hbw1 hby1 hc1 hm1 hzw1
  go_enter Try.func7, Try.ntmps7
  go_wp2_with fail
  refine HSP.out.mono ?_
  rintro e w1 ⟨hb1, vl, rfl, hvl⟩
  have hz1 := hb1.size
  have hzw1 := HZW.out
  have HB1 := Lib.hid (HBW.out.trans (hb1.mono (by omega)))
  obtain ⟨C2, W2, hcv2, hbw2, hzw2, hby2, hc2, hm2⟩ := HSB.out w1
  have HR := Lib.hid (rsplit_any w1.heap.size 0 C2 x W2 (by have := HX.out; omega) hm2 (by have := HX.out; omega) (by omega) hby2)
  rw [HX.out, HS.out] at HR
  have HVL := Lib.hid (hvl.below hbw2)
  have HBW2 := Lib.hid hbw2
  have HZW2 := Lib.hid hzw2
  obtain ⟨A1, c1, rfl⟩ := hvl.len
  clear hvl hb1 HSP hbw2 hby2 hc2 hm2 hzw2 hzw1 hz1 hcv1
  go_wp2_with fail
  refine HR.out.mono ?_
  rintro e w2 ⟨hb2, vm, rfl, hvm⟩
  have hzw2 := HZW2.out
  obtain ⟨A2, c2, rfl⟩ := hvm.len
  have HSA := Lib.hid (rsame_own w2 _ _ _ _ L (HVL.out.below hb2) hvm (by have := HROW.out.1; have := HX.out; omega) (fun r hr => (HROW.out.2 r hr).2))
  have hs1 : w.heap.size ≤ w1.heap.size := HB1.out.size
  have HB2 := Lib.hid ((HB1.out.trans (HBW2.out.mono hs1)).trans (hb2.mono (by omega)))
  clear hvm hb2 HR hcv2 hzw2
  dsimp only at HSA ⊢
  go_wp2_with fail
  refine HSA.out.mono ?_
  rintro e w3 ⟨rfl, q, rfl⟩
  have HAW := Lib.hid (awake_any (w2.drewN q))
  go_wp2_with fail
  refine HAW.out.mono ?_
  rintro e w4 ⟨rfl, hb4⟩
  have HFIN := Lib.hid ((below_drewN HB2.out q).trans (hb4.mono (by show w.heap.size ≤ w2.heap.size; have := HB2.out.size; omega)))
  clear hb4
  go_wp2
  go_ret
  exact ⟨rfl, HFIN.out⟩

set_option maxRecDepth 100000 in
set_option maxHeartbeats 4000000 in
theorem respWords_long (s : ByteArray) (w : World) (hs : 70000 < s.size) (hs2 : s.size ≤ 9223372036854775807) :
    Calls Try.prog 7 #[.string s] w fun e w' => e = .returned (.bool true) ∧ Below w.heap.size w w' := by
  have hysz : (s.extract 0 70000).size ≤ 70000 := by rw [ByteArray.size_extract]; omega
  obtain ⟨N, hN⟩ : ∃ N, ((⟨#[32]⟩ : ByteArray) ++ (s.extract 0 70000) ++ ⟨#[10]⟩).size = N := ⟨_, rfl⟩
  have hNb : N ≤ 70002 := by
    rw [← hN, ByteArray.size_append, ByteArray.size_append]
    show 1 + (s.extract 0 70000).size + 1 ≤ 70002
    omega
  obtain ⟨x, hx⟩ : ∃ x, ((⟨#[32]⟩ : ByteArray) ++ (s.extract 0 70000) ++ ⟨#[10]⟩).data.toList = x := ⟨_, rfl⟩
  have hxl : x.length = N := by rw [← hx, Array.length_toList]; exact hN
  have HSB := Lib.hid (fun w => str_bytes w ((⟨#[32]⟩ : ByteArray) ++ (s.extract 0 70000) ++ ⟨#[10]⟩) N x hN hx (by omega))
  obtain ⟨C1, W1, hcv1, hbw1, hzw1, hby1, hc1, hm1⟩ := HSB.out w
  have HSP := Lib.hid (psplit_any w.heap.size 0 C1 x W1 (by omega) hm1 (by omega) (by omega) hby1)
  rw [hxl] at HSP
  have hrows := splitS_rows x
  obtain ⟨S, hS⟩ : ∃ S, splitS x = S := ⟨_, rfl⟩
  obtain ⟨L, n, F⟩ := S
  rw [hS] at HSP hrows
  have HS := Lib.hid hS
  have HROW := Lib.hid hrows
  have HX := Lib.hid hxl
  have HBW := Lib.hid hbw1
  have HZW := Lib.hid hzw1
  clear hS hrows hxl hx hN hysz hbw1 hby1 hc1 hm1 hzw1
  go_enter Try.func7, Try.ntmps7
  go_wp2_with fail
  refine HSP.out.mono ?_
  rintro e w1 ⟨hb1, vl, rfl, hvl⟩
  have hz1 := hb1.size
  have hzw1 := HZW.out
  have HB1 := Lib.hid (HBW.out.trans (hb1.mono (by omega)))
  obtain ⟨C2, W2, hcv2, hbw2, hzw2, hby2, hc2, hm2⟩ := HSB.out w1
  have HR := Lib.hid (rsplit_any w1.heap.size 0 C2 x W2 (by have := HX.out; omega) hm2 (by have := HX.out; omega) (by omega) hby2)
  rw [HX.out, HS.out] at HR
  have HVL := Lib.hid (hvl.below hbw2)
  have HBW2 := Lib.hid hbw2
  have HZW2 := Lib.hid hzw2
  obtain ⟨A1, c1, rfl⟩ := hvl.len
  clear hvl hb1 HSP hbw2 hby2 hc2 hm2 hzw2 hzw1 hz1 hcv1
  go_wp2_with fail
  refine HR.out.mono ?_
  rintro e w2 ⟨hb2, vm, rfl, hvm⟩
  have hzw2 := HZW2.out
  obtain ⟨A2, c2, rfl⟩ := hvm.len
  have HSA := Lib.hid (rsame_own w2 _ _ _ _ L (HVL.out.below hb2) hvm (by have := HROW.out.1; have := HX.out; omega) (fun r hr => (HROW.out.2 r hr).2))
  have hs1 : w.heap.size ≤ w1.heap.size := HB1.out.size
  have HB2 := Lib.hid ((HB1.out.trans (HBW2.out.mono hs1)).trans (hb2.mono (by omega)))
  clear hvm hb2 HR hcv2 hzw2
  dsimp only at HSA ⊢
  go_wp2_with fail
  refine HSA.out.mono ?_
  rintro e w3 ⟨rfl, q, rfl⟩
  have HAW := Lib.hid (awake_any (w2.drewN q))
  go_wp2_with fail
  refine HAW.out.mono ?_
  rintro e w4 ⟨rfl, hb4⟩
  have HFIN := Lib.hid ((below_drewN HB2.out q).trans (hb4.mono (by show w.heap.size ≤ w2.heap.size; have := HB2.out.size; omega)))
  clear hb4
  go_wp2
  go_ret
  exact ⟨rfl, HFIN.out⟩

theorem respWords_any (s : ByteArray) (w : World) (hs : s.size ≤ 9223372036854775807) :
    Calls Try.prog 7 #[.string s] w fun e w' => e = .returned (.bool true) ∧ Below w.heap.size w w' := by
  rcases Nat.lt_or_ge 70000 s.size with h | h
  · exact respWords_long s w h hs
  · exact respWords_short s w h

end Go.Proofs.Ytmbgonldbhpanaa
