/-
  The walks of the document's own bucket, in and find. Conditions: the table's rows lie in memory as they read.
-/
import Derived.Test.YtcjoakbaldeaoaaTaC
import Derived.Lib.Strings
namespace Go.Proofs.Ytcjoakbaldeaoaa
open Go.RowKit

/-- Keys with values, one behind the other, two cells each. -/
def ItemsAt (w : World) (g o : Nat) (l : List (List UInt8 × Int)) : Prop := ∀ (i : Nat) (x : List UInt8 × Int), l[i]? = some x → w.cell? ⟨g, o + i * 2, none⟩ = some (.string ⟨x.1.toArray⟩) ∧ w.cell? ⟨g, o + i * 2 + 1, none⟩ = some (.int .i64 x.2)

/-- A slice that reads as a bucket. -/
structure BktAt (w : World) (A : Option Addr) (g o c : Nat) (l : List (List UInt8 × Int)) : Prop where
  le : l.length ≤ c
  max : c ≤ 9223372036854775807
  at_ : 0 < l.length → A = some ⟨g, o, none⟩ ∧ g < w.heap.size
  items : ItemsAt w g o l
  bare : A = none → c = 0

theorem BktAt.below {w w' : World} {A : Option Addr} {g o c : Nat} {l : List (List UInt8 × Int)} (h : BktAt w A g o c l) (hb : Below w.heap.size w w') : BktAt w' A g o c l :=
  ⟨h.le, h.max, fun hl => ⟨(h.at_ hl).1, Nat.lt_of_lt_of_le (h.at_ hl).2 hb.size⟩, fun i x hx => by
    have hg := (h.at_ (by have := (List.getElem?_eq_some_iff.1 hx).1; omega)).2
    obtain ⟨h1, h2⟩ := h.items i x hx
    exact ⟨(hb.cell (p := ⟨g, o + i * 2, none⟩) hg).trans h1, (hb.cell (p := ⟨g, o + i * 2 + 1, none⟩) hg).trans h2⟩, h.bare⟩

/-- The place of a key in a bucket; below 0: none. -/
def idxL (l : List (List UInt8 × Int)) (k : List UInt8) : Int := match l with
  | [] => -1
  | x :: l => if x.1 = k then 0 else if idxL l k < 0 then -1 else idxL l k + 1

theorem idxL_cases (k : List UInt8) : ∀ l : List (List UInt8 × Int), (idxL l k = -1 ∧ ∀ x ∈ l, x.1 ≠ k) ∨ (∃ (i : Nat) (x : List UInt8 × Int), idxL l k = i ∧ l[i]? = some x ∧ x.1 = k ∧ ∀ (j : Nat) (y : List UInt8 × Int), j < i → l[j]? = some y → y.1 ≠ k)
  | [] => Or.inl ⟨rfl, fun x hx => by cases hx⟩
  | x :: l => by
    rw [idxL]
    by_cases hx : x.1 = k
    · rw [if_pos hx]
      exact Or.inr ⟨0, x, rfl, rfl, hx, fun j y hj => absurd hj (Nat.not_lt_zero j)⟩
    · rw [if_neg hx]
      rcases idxL_cases k l with ⟨h1, h2⟩ | ⟨i, z, h1, h2, h3, h4⟩
      · rw [if_pos (by omega)]
        refine Or.inl ⟨rfl, fun y hy => ?_⟩
        rcases List.mem_cons.1 hy with rfl | hy
        · exact hx
        · exact h2 y hy
      · rw [if_neg (by omega)]
        refine Or.inr ⟨i + 1, z, by omega, by simpa using h2, h3, fun j y hj hy => ?_⟩
        cases j with
        | zero => simp at hy; subst hy; exact hx
        | succ j => exact h4 j y (by omega) (by simpa using hy)

theorem idxL_first {k : List UInt8} {l : List (List UInt8 × Int)} {i : Nat} {x : List UInt8 × Int} (hx : l[i]? = some x) (hk : x.1 = k) (hf : ∀ (j : Nat) (y : List UInt8 × Int), j < i → l[j]? = some y → y.1 ≠ k) : idxL l k = i := by
  rcases idxL_cases k l with ⟨_, h2⟩ | ⟨j, y, h1, h2, h3, h4⟩
  · exact absurd hk (h2 x (List.mem_of_getElem? hx))
  · rcases Nat.lt_trichotomy i j with h | h | h
    · exact absurd hk (h4 i x h hx)
    · rw [h1, h]
    · exact absurd h3 (hf j y h h2)

theorem idxL_none {k : List UInt8} {l : List (List UInt8 × Int)} (hn : ∀ x ∈ l, x.1 ≠ k) : idxL l k = -1 := by
  rcases idxL_cases k l with ⟨h1, _⟩ | ⟨i, x, _, h2, h3, _⟩
  · exact h1
  · exact absurd h3 (hn x (List.mem_of_getElem? h2))

set_option maxRecDepth 100000 in
set_option maxHeartbeats 2000000 in
theorem rbucket_any (R seed n : Nat) (hs : seed < 18446744073709551616) (hn : 1 ≤ n) (hn63 : n ≤ 9223372036854775807) (T : ByteArray) (w : World) (hc : w.cell? ⟨R, 0, none⟩ = some (.int .u64 seed)) (hT : T.size ≤ 9223372036854775807) :
    Calls Try.prog 80 #[.pointer (some ⟨R, 0, none⟩), .int .i64 n, .string T] w fun e w' => e = .returned (.int .i64 (hashT seed T.data.toList % n : Nat)) ∧ Below w.heap.size w w' := by
  have HH := Lib.hid (rhash_any seed hs T w hT)
  have hl := hashT_lt hs T.data.toList
  obtain ⟨z, hz⟩ : ∃ z, hashT seed T.data.toList = z := ⟨_, rfl⟩
  rw [hz] at HH hl ⊢
  clear hz
  have hm : z % n < n := Nat.mod_lt _ hn
  have hw : IntKind.u64.wrap (n : Int) = (n : Int) := by rw [IntKind.wrap_u64]; omega
  have hne : ¬ (n : Int) = 0 := by omega
  have hw2 : IntKind.i64.wrap ((z : Int) % (n : Int)) = (z : Int) % (n : Int) := IntWalk.i64_in _ (by omega)
  go_enter Try.func80, Try.ntmps80
  go_wp2_with fail
  refine HH.out.mono ?_
  rintro e w1 ⟨rfl, hb1⟩
  have HB1 := Lib.hid hb1
  clear hb1
  go_wp2
  go_ret
  exact ⟨by first | rfl | simp, HB1.out⟩

set_option maxRecDepth 100000 in
set_option maxHeartbeats 4000000 in
theorem rin_any (A : Option Addr) (g o c : Nat) (l : List (List UInt8 × Int)) (k : List UInt8) (K : ByteArray) (hK : K.data.toList = k) (w : World) (hl : BktAt w A g o c l) :
    Calls Try.prog 91 #[.slice A l.length c, .string K] w fun e w' => e = .returned (.int .i64 (idxL l k)) ∧ Below w.heap.size w w' := by
  have HL := Lib.hid hl
  have HKK := Lib.hid hK
  have hle := hl.le
  have hmax := hl.max
  obtain ⟨n, hn⟩ : ∃ n, l.length = n := ⟨_, rfl⟩
  have HN := Lib.hid hn
  rw [hn] at hle ⊢
  clear hl hK hn
  go_enter Try.func91, Try.ntmps91
  go_wp2
  go_loopw [5] (fun iv wr => ∃ i : Nat, iv = .int .i64 i ∧ i ≤ n ∧ Below w.heap.size w wr ∧ Hid (∀ (j : Nat) (y : List UInt8 × Int), j < i → l[j]? = some y → y.1 ≠ k)) (fun iv _ => n - (intOf iv).toNat)
  case atStart => exact ⟨0, rfl, by omega, Below.refl _ _, fun j y hj => absurd hj (Nat.not_lt_zero j)⟩
  case round =>
    obtain ⟨i, rfl, hi, hb, HG⟩ := hrel
    have HB := Lib.hid hb
    by_cases hlt : i < n
    · obtain ⟨rfl, hg⟩ := HL.out.at_ (by rw [HN.out]; omega)
      obtain ⟨x, hx⟩ : ∃ x, l[i]? = some x := ⟨_, List.getElem?_eq_getElem (by rw [HN.out]; exact hlt)⟩
      obtain ⟨c0, _⟩ := (HL.out.below hb).items i x hx
      have HX := Lib.hid hx
      clear hb hx
      obtain ⟨S, hS⟩ : ∃ S : ByteArray, ⟨x.1.toArray⟩ = S := ⟨_, rfl⟩
      have HSX : Hid (S.data.toList = x.1) := by unfold Hid; rw [← hS]
      rw [hS] at c0
      clear hS
      by_cases he : x.1 = k
      · have HI := Lib.hid (idxL_first HX.out he HG.out)
        obtain rfl : S = K := by
          cases S; cases K
          have h1 := HSX.out
          have h2 := HKK.out
          simp only at h1 h2
          rw [Array.toList_inj.1 (h1.trans (he.trans h2.symm))]
        go_wp2
        go_ret
        exact ⟨by rw [HI.out]; rfl, HB.out⟩
      · have hne : (S.toList == K.toList) = false := by
          rw [beq_eq_false_iff_ne]
          exact fun q => he (by rw [← HSX.out, ← HKK.out, ← Lib.toList_data, ← Lib.toList_data]; exact q)
        have HE := Lib.hid he
        clear he
        go_wp2
        go_roundw
        case rel => exact ⟨i + 1, by go_num, by omega, HB.out, fun j y hj hy => by
          rcases Nat.lt_or_ge j i with h | h
          · exact HG.out j y h hy
          · obtain rfl : j = i := by omega
            have e := HX.out.symm.trans hy
            injection e with e
            rw [← e]
            exact HE.out⟩
        case measure => simp only [intOf]; omega
    · obtain rfl : i = n := by omega
      have HI : Hid (idxL l k = -1) := idxL_none fun x hx => by
        obtain ⟨j, hj⟩ := List.getElem?_of_mem hx
        exact HG.out j x (by have := (List.getElem?_eq_some_iff.1 hj).1; rw [HN.out] at this; exact this) hj
      go_wp2
      go_ret
      exact ⟨by rw [HI.out]; rfl, HB.out⟩

end Go.Proofs.Ytcjoakbaldeaoaa
