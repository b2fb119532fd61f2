/-
  Plain facts: a request's bytes, whatever comes behind them, are read as the request first. Conditions: one text at least, 1024 at most, each of at most 65536 bytes.
-/
import Derived.Test.YtkaododohnncnaaDoorRspT
import Derived.Lib.ItoaLen
namespace Go.Proofs.YtkaododohnncnaaDoor

def bulkW (t : List UInt8) : List UInt8 := 36 :: (Lib.itoa t.length ++ 13 :: 10 :: (t ++ [13, 10]))
def writeB (l : List (List UInt8)) : List UInt8 := 42 :: (Lib.itoa l.length ++ 13 :: 10 :: (l.map bulkW).flatten)

theorem dec_digits (u : Nat) : ∀ c ∈ Lib.decDigits u, 48 ≤ c.toNat ∧ c.toNat ≤ 57 := by
  induction u using Nat.strongRecOn with
  | ind u ih =>
    intro c hc
    rw [Lib.decDigits] at hc
    split at hc
    · rename_i h
      simp only [List.mem_singleton] at hc
      subst hc
      rw [UInt8.toNat_ofNat']
      omega
    · rename_i h
      rw [List.mem_append] at hc
      rcases hc with hc | hc
      · exact ih (u / 10) (by omega) c hc
      · simp only [List.mem_singleton] at hc
        subst hc
        rw [UInt8.toNat_ofNat']
        omega

theorem itoa_nat (n : Nat) : Lib.itoa (n : Int) = Lib.decDigits n := by
  unfold Lib.itoa
  rw [if_neg (by omega)]
  simp

theorem findF_first (c : UInt8) : ∀ (d r : List UInt8) (f k : Nat), (∀ x ∈ d, x ≠ c) → d.length < f → findF c f (d ++ c :: r) k = some (k + d.length)
  | [], r, f + 1, k, _, _ => by simp [findF]
  | x :: d, r, f + 1, k, h, hf => by
    simp only [List.cons_append, findF]
    rw [if_neg (h x (by simp)), findF_first c d r f (k + 1) (fun y hy => h y (by simp [hy])) (by simpa using hf)]
    simp only [List.length_cons, Option.some.injEq]
    omega
  | _, _, 0, _, _, h => by omega

theorem headS_itoa (big : List UInt8) (c y : UInt8) (n : Nat) (r : List UInt8) (hc : c ≠ 13) (hn : n < 18446744073709551616) :
    headS big (c :: (Lib.itoa n ++ 13 :: y :: r)) = some (.inr (Lib.itoa n, (Lib.itoa n).length + 3)) := by
  have hd : ∀ x ∈ c :: Lib.itoa (n : Int), x ≠ 13 := by
    intro x hx
    rcases List.mem_cons.1 hx with rfl | hx
    · exact hc
    · rw [itoa_nat] at hx
      intro e
      have := dec_digits n x hx
      rw [e] at this
      exact absurd this.1 (by decide)
  have hl : (Lib.itoa (n : Int)).length ≤ 20 := by rw [itoa_nat, Lib.decDigits_length]; exact Lib.nDigits_le20 n hn
  have hf : findL 13 (c :: (Lib.itoa (n : Int) ++ 13 :: y :: r)) = some ((Lib.itoa (n : Int)).length + 1) := by
    have := findF_first 13 (c :: Lib.itoa (n : Int)) (y :: r) 65536 0 hd (by simp only [List.length_cons]; omega)
    unfold findL
    simpa using this
  unfold headS
  rw [hf]
  simp only
  rw [if_neg (by simp only [List.length_cons, List.length_append]; omega)]
  have ht : ((c :: (Lib.itoa (n : Int) ++ 13 :: y :: r)).take ((Lib.itoa (n : Int)).length + 1)).drop 1 = Lib.itoa (n : Int) := by simp
  rw [ht]

theorem bulkS_write (t rest : List UInt8) (ht : t.length ≤ 65536) : bulkS (bulkW t ++ rest) = some (.inr (t, (bulkW t).length)) := by
  have e : bulkW t ++ rest = 36 :: (Lib.itoa t.length ++ 13 :: 10 :: (t ++ 13 :: 10 :: rest)) := by simp [bulkW]
  have hlen : (bulkW t).length = (Lib.itoa (t.length : Int)).length + 5 + t.length := by simp [bulkW]; omega
  have hp : parseV (Lib.itoa (t.length : Int)) = some (t.length : Int) := parse_itoa _ (by omega) (by omega)
  have hh := headS_itoa bigB 36 10 t.length (t ++ 13 :: 10 :: rest) (by decide) (by omega)
  rw [e]
  simp only [bulkS]
  rw [if_neg (by decide), hh]
  simp only [hp]
  rw [if_neg (by omega), if_neg (by simp only [List.length_cons, List.length_append, Int.toNat_natCast]; omega), hlen]
  simp only [Int.toNat_natCast, Option.some.injEq, Sum.inr.injEq, Prod.mk.injEq]
  refine ⟨?_, by omega⟩
  have hd : (36 :: (Lib.itoa (t.length : Int) ++ 13 :: 10 :: (t ++ 13 :: 10 :: rest))).drop ((Lib.itoa (t.length : Int)).length + 3) = t ++ 13 :: 10 :: rest := by
    rw [show (Lib.itoa (t.length : Int)).length + 3 = ((Lib.itoa (t.length : Int)).length + 2) + 1 from by omega, List.drop_succ_cons, List.drop_append]
    simp
  rw [hd]
  simp

theorem bulksGo_write (L : List UInt8) : ∀ (l : List (List UInt8)) (at_ : Nat) (acc : List (List UInt8)) (rest : List UInt8), (∀ t ∈ l, t.length ≤ 65536) → L.drop at_ = (l.map bulkW).flatten ++ rest → bulksGo L l.length at_ acc = some (.inr (acc ++ l, at_ + (l.map bulkW).flatten.length))
  | [], at_, acc, rest, _, _ => by simp [bulksGo]
  | t :: l, at_, acc, rest, h, hd => by
    simp only [List.map_cons, List.flatten_cons, List.append_assoc] at hd
    have hb := bulkS_write t ((l.map bulkW).flatten ++ rest) (h t (by simp))
    rw [← hd] at hb
    rw [List.length_cons]
    simp only [bulksGo]
    rw [hb]
    simp only
    rw [bulksGo_write L l (at_ + (bulkW t).length) (acc ++ [t]) rest (fun x hx => h x (by simp [hx])) (by rw [← List.drop_drop, hd]; simp)]
    simp only [List.map_cons, List.flatten_cons, List.length_append, List.append_assoc, List.singleton_append, Nat.add_assoc]

theorem firstS_write (l : List (List UInt8)) (tail : List UInt8) (hn : l.length ≤ 1024) (h : ∀ t ∈ l, t.length ≤ 65536) : firstS (writeB l ++ tail) = some (.inr (l, (writeB l).length)) := by
  have e : writeB l ++ tail = 42 :: (Lib.itoa l.length ++ 13 :: 10 :: ((l.map bulkW).flatten ++ tail)) := by simp [writeB]
  have hlen : (writeB l).length = (Lib.itoa (l.length : Int)).length + 3 + (l.map bulkW).flatten.length := by simp only [writeB, List.length_cons, List.length_append]; omega
  have hp : parseV (Lib.itoa (l.length : Int)) = some (l.length : Int) := parse_itoa _ (by omega) (by omega)
  have hh := headS_itoa bigM 42 10 l.length ((l.map bulkW).flatten ++ tail) (by decide) (by omega)
  have hd : (writeB l ++ tail).drop ((Lib.itoa (l.length : Int)).length + 3) = (l.map bulkW).flatten ++ tail := by
    rw [e, show (Lib.itoa (l.length : Int)).length + 3 = ((Lib.itoa (l.length : Int)).length + 2) + 1 from by omega, List.drop_succ_cons, List.drop_append]
    simp
  have hg := bulksGo_write (writeB l ++ tail) l _ [] tail h hd
  rw [e] at hg ⊢
  simp only [firstS, if_true]
  unfold bulksS
  rw [hh]
  simp only [hp]
  rw [if_neg (by omega), Int.toNat_natCast, hg, hlen]
  rfl

/-- There and back: the request comes first, and all its bytes are passed over. -/
theorem splitS_write (l : List (List UInt8)) (tail : List UInt8) (h0 : l ≠ []) (hn : l.length ≤ 1024) (h : ∀ t ∈ l, t.length ≤ 65536) :
    ∃ (A : List (List (List UInt8))) (N : Nat) (E : List UInt8), splitS (writeB l ++ tail) = (l :: A, (writeB l).length + N, E) := by
  have hF := firstS_write l tail hn h
  have hx : splitS (writeB l ++ tail) = splitGo (writeB l ++ tail).length (writeB l ++ tail) (0 + (writeB l).length) [l] := by
    unfold splitS
    rw [splitGo, List.drop_zero, hF]
    simp only
    rw [if_neg h0, List.nil_append]
  rw [hx, Nat.zero_add]
  have hlen : (writeB l ++ tail).length = (writeB l).length + tail.length := List.length_append
  have hpos : 0 < (writeB l).length := by simp [writeB]
  rw [splitGo_shift (writeB l ++ tail) _ _ [l] (writeB l ++ tail).length (by omega) (Nat.le_refl _) (by omega)]
  exact ⟨_, _, _, rfl⟩

end Go.Proofs.YtkaododohnncnaaDoor
