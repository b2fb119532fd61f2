/-
  Package table (values: int): the walks of isMade, moves, Len, Sizes, of, find and where. Conditions: as typed.
-/
import Derived.Test.YtcjoakbaldeaoaaTbP
import Derived.LaidEqlPtr
namespace Go.Proofs.Ytcjoakbaldeaoaa
open Go.RowKit

set_option maxRecDepth 100000 in
set_option maxHeartbeats 8000000 in
theorem isMadeI_any (Q : Nat) (w : World) (c0 : w.cell? ⟨Q, 0, none⟩ = some (.pointer (some ⟨Q, 0, none⟩))) :
    Calls Try.prog 51 #[.pointer (some ⟨Q, 0, none⟩)] w fun e w' => e = .returned (.bool true) ∧ w' = w := by
  have hi : (Try.prog.info? 67).isSome = true := by kernel_rfl
  obtain ⟨i, hi⟩ := Option.isSome_iff_exists.1 hi
  have he : (binOp .eql 28 (.pointer (some ⟨Q, 0, none⟩)) (.pointer (some ⟨Q, 0, none⟩))).run Try.prog w = .ok (.bool true) w := run_eql_ptr_same w _ (te := 67) Try.underlying28 hi
  clear hi
  go_enter Try.func51, Try.ntmps51
  go_wp2
  go_ret
  exact ⟨rfl, rfl⟩

set_option maxRecDepth 100000 in
set_option maxHeartbeats 8000000 in
theorem isMadeI_nil (w : World) :
    Calls Try.prog 51 #[.pointer none] w fun e w' => e = .returned (.bool false) ∧ w' = w := by
  go_enter Try.func51, Try.ntmps51
  go_wp2
  go_ret
  exact ⟨rfl, rfl⟩

set_option maxRecDepth 100000 in
set_option maxHeartbeats 8000000 in
theorem isMadeI_zero (Q : Nat) (w : World) (c0 : w.cell? ⟨Q, 0, none⟩ = some (.pointer none)) :
    Calls Try.prog 51 #[.pointer (some ⟨Q, 0, none⟩)] w fun e w' => e = .returned (.bool false) ∧ w' = w := by
  have he : (binOp .eql 28 (.pointer none) (.pointer (some ⟨Q, 0, none⟩))).run Try.prog w = .ok (.bool false) w := run_eql_nil_ptr w ⟨Q, 0, none⟩ Try.underlying28
  go_enter Try.func51, Try.ntmps51
  go_wp2
  go_ret
  exact ⟨rfl, rfl⟩

set_option maxRecDepth 100000 in
set_option maxHeartbeats 8000000 in
theorem movesI_any (Q n g : Nat) (w : World) (c4 : w.cell? ⟨Q, 4, none⟩ = some (rowV g n)) :
    Calls Try.prog 73 #[.pointer (some ⟨Q, 0, none⟩)] w fun e w' => e = .returned (.bool (decide (0 < n))) ∧ w' = w := by
  rcases Nat.eq_zero_or_pos n with rfl | hn
  · replace c4 : w.cell? ⟨Q, 4, none⟩ = some (.slice none 0 0) := c4
    go_enter Try.func73, Try.ntmps73
    go_wp2
    go_ret
    exact ⟨rfl, rfl⟩
  · rw [rowV_pos hn] at c4
    go_enter Try.func73, Try.ntmps73
    go_wp2
    go_ret
    refine ⟨?_, rfl⟩
    first | rfl | (congr 2; simp; done) | (congr 2; simp; omega)

set_option maxRecDepth 100000 in
set_option maxHeartbeats 8000000 in
theorem ofI_any (g n H : Nat) (w : World) (hn : 0 < n) (hn63 : n ≤ 1000000) (hH : H < 18446744073709551616) :
    Calls Try.prog 85 #[.slice (some ⟨g, 0, none⟩) n n, .int .u64 H] w fun e w' => e = .returned (.pointer (some ⟨g, H % n, none⟩)) ∧ w' = w := by
  have hm : H % n < n := Nat.mod_lt _ hn
  have hw : IntKind.u64.wrap (n : Int) = (n : Int) := by rw [IntKind.wrap_u64]; omega
  have hne : ¬ (n : Int) = 0 := by omega
  obtain ⟨r, hr⟩ : ∃ r, H % n = r := ⟨_, rfl⟩
  have hr2 : (H : Int) % (n : Int) = (r : Int) := by omega
  have hr3 : IntKind.u64.wrap (r : Int) = (r : Int) := by rw [IntKind.wrap_u64]; omega
  rw [hr] at hm ⊢
  clear hr
  go_enter Try.func85, Try.ntmps85
  go_wp2
  go_ret
  exact ⟨by first | rfl | simp, rfl⟩

set_option maxRecDepth 100000 in
set_option maxHeartbeats 4000000 in
theorem findI_any (base : Nat) (v : Value) (l : List (List UInt8 × Int)) (k : List UInt8) (K : ByteArray) (hK : K.data.toList = k) (w : World) (hl : w.ownsRow base KI.te 2 v l.length (encIt KI.enc l)) (hm : l.length ≤ 1000000000) :
    Calls Try.prog 86 #[v, .string K] w fun e w' => e = .returned (.int .i64 (idxG l k)) ∧ Below w.heap.size w w' := by
  obtain ⟨A, c, rfl⟩ : ∃ A c, v = .slice A l.length c := by
    rcases hl.2 with ⟨h1, h2⟩ | ⟨g, cap, cur, hv, _⟩
    · exact ⟨none, 0, by rw [h1, h2]⟩
    · exact ⟨_, _, hv⟩
  have HL := Lib.hid hl
  have HKK := Lib.hid hK
  obtain ⟨n, hn⟩ : ∃ n, l.length = n := ⟨_, rfl⟩
  have HN := Lib.hid hn
  rw [hn] at hm ⊢
  clear hl hK hn
  go_enter Try.func86, Try.ntmps86
  go_wp2
  go_loopw [5, 8] (fun _ iv wr => ∃ i : Nat, iv = .int .i64 i ∧ i ≤ n ∧ Below w.heap.size w wr ∧ Hid (∀ (j : Nat) (y : List UInt8 × Int), j < i → l[j]? = some y → y.1 ≠ k)) (fun _ iv _ => n - (intOf iv).toNat)
  case atStart => exact ⟨0, rfl, by omega, Below.refl _ _, fun j y hj => absurd hj (Nat.not_lt_zero j)⟩
  case round =>
    obtain ⟨i, rfl, hi, hb, HG⟩ := hrel
    have HB := Lib.hid hb
    by_cases hlt : i < n
    · obtain ⟨x, hx⟩ : ∃ x, l[i]? = some x := ⟨_, List.getElem?_eq_getElem (by rw [HN.out]; exact hlt)⟩
      obtain ⟨g, rfl, hg, c0⟩ : ∃ g, A = some ⟨g, 0, none⟩ ∧ g < w.heap.size ∧ w.cell? ⟨g, i * 2, none⟩ = some (.string ⟨x.1.toArray⟩) := by
        have h := HL.out
        rcases h.2 with ⟨h1, h2⟩ | ⟨g, cap, cur, hv, _, hgg, _⟩
        · rw [HN.out] at h2; omega
        · injection hv with h1 h2 h3
          subst h1
          refine ⟨g, rfl, (Array.getElem?_eq_some_iff.1 hgg).1, ?_⟩
          rw [World.ownsRow.cellAt h (i * 2) (by rw [HN.out]; omega)]
          exact (encIt_get _ l i x hx).1
      have c0 := (hb.cell (p := ⟨g, i * 2, none⟩) hg).trans c0
      have HX := Lib.hid hx
      clear hb hx
      obtain ⟨S, hS⟩ : ∃ S : ByteArray, ⟨x.1.toArray⟩ = S := ⟨_, rfl⟩
      have HSX : Hid (S.data.toList = x.1) := by unfold Hid; rw [← hS]
      rw [hS] at c0
      clear hS
      by_cases he : x.1 = k
      · have HI := Lib.hid (idxG_first HX.out he HG.out)
        obtain rfl : S = K := by
          cases S; cases K
          have h1 := HSX.out
          have h2 := HKK.out
          simp only at h1 h2
          rw [Array.toList_inj.1 (h1.trans (he.trans h2.symm))]
        go_wp2
        go_ret
        exact ⟨by rw [HI.out]; rfl, HB.out⟩
      · have hne : (S.toList == K.toList) = false := by
          rw [beq_eq_false_iff_ne]
          exact fun q => he (by rw [← HSX.out, ← HKK.out, ← Lib.toList_data, ← Lib.toList_data]; exact q)
        have HE := Lib.hid he
        clear he
        go_wp2
        go_roundw
        case rel => exact ⟨i + 1, by go_num, by omega, HB.out, fun j y hj hy => by
          rcases Nat.lt_or_ge j i with h | h
          · exact HG.out j y h hy
          · obtain rfl : j = i := by omega
            have e := HX.out.symm.trans hy
            injection e with e
            rw [← e]
            exact HE.out⟩
        case measure => simp only [intOf]; omega
    · obtain rfl : i = n := by omega
      have HI : Hid (idxG l k = -1) := idxG_none fun x hx => by
        obtain ⟨j, hj⟩ := List.getElem?_of_mem hx
        exact HG.out j x (by have := (List.getElem?_eq_some_iff.1 hj).1; rw [HN.out] at this; exact this) hj
      go_wp2
      go_ret
      exact ⟨by rw [HI.out]; rfl, HB.out⟩

end Go.Proofs.Ytcjoakbaldeaoaa
