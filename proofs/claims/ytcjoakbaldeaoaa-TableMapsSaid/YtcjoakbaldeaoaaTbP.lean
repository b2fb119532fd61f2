/-
  Package table: its head in memory, a key's place, where a key stands; the walk of its Hash. Conditions: as typed.
-/
import Derived.Test.YtcjoakbaldeaoaaTbM
import Derived.Test.YtcjoakbaldeaoaaTaB
import Derived.Lib.Strings
import Derived.LaidEqlPtr
namespace Go.Proofs.Ytcjoakbaldeaoaa
open Go.RowKit

section
variable {α : Type}

/-- The place of a key in a bucket; below 0: none. -/
def idxG (l : List (List UInt8 × α)) (k : List UInt8) : Int := match l with
  | [] => -1
  | x :: l => if x.1 = k then 0 else if idxG l k < 0 then -1 else idxG l k + 1

theorem idxG_cases (k : List UInt8) : ∀ l : List (List UInt8 × α), (idxG l k = -1 ∧ ∀ x ∈ l, x.1 ≠ k) ∨ (∃ (i : Nat) (x : List UInt8 × α), idxG l k = i ∧ l[i]? = some x ∧ x.1 = k ∧ ∀ (j : Nat) (y : List UInt8 × α), j < i → l[j]? = some y → y.1 ≠ k)
  | [] => Or.inl ⟨rfl, fun x hx => by cases hx⟩
  | x :: l => by
    rw [idxG]
    by_cases hx : x.1 = k
    · rw [if_pos hx]
      exact Or.inr ⟨0, x, rfl, rfl, hx, fun j y hj => absurd hj (Nat.not_lt_zero j)⟩
    · rw [if_neg hx]
      rcases idxG_cases k l with ⟨h1, h2⟩ | ⟨i, z, h1, h2, h3, h4⟩
      · rw [if_pos (by omega)]
        refine Or.inl ⟨rfl, fun y hy => ?_⟩
        rcases List.mem_cons.1 hy with rfl | hy
        · exact hx
        · exact h2 y hy
      · rw [if_neg (by omega)]
        refine Or.inr ⟨i + 1, z, by omega, by simpa using h2, h3, fun j y hj hy => ?_⟩
        cases j with
        | zero => simp at hy; subst hy; exact hx
        | succ j => exact h4 j y (by omega) (by simpa using hy)

theorem idxG_first {k : List UInt8} {l : List (List UInt8 × α)} {i : Nat} {x : List UInt8 × α} (hx : l[i]? = some x) (hk : x.1 = k) (hf : ∀ (j : Nat) (y : List UInt8 × α), j < i → l[j]? = some y → y.1 ≠ k) : idxG l k = i := by
  rcases idxG_cases k l with ⟨_, h2⟩ | ⟨j, y, h1, h2, h3, h4⟩
  · exact absurd hk (h2 x (List.mem_of_getElem? hx))
  · rcases Nat.lt_trichotomy i j with h | h | h
    · exact absurd hk (h4 i x h hx)
    · rw [h1, h]
    · exact absurd h3 (hf j y h h2)

theorem idxG_none {k : List UInt8} {l : List (List UInt8 × α)} (hn : ∀ x ∈ l, x.1 ≠ k) : idxG l k = -1 := by
  rcases idxG_cases k l with ⟨h1, _⟩ | ⟨i, x, _, h2, h3, _⟩
  · exact h1
  · exact absurd h3 (hn x (List.mem_of_getElem? h2))

/-- Sought and not found, or found at its place; what stands there with another value, and without it. -/
theorem seekL_idxG {l : List (List UInt8 × α)} {k : List UInt8} : (idxG l k = -1 ∧ seekL l k = none) ∨ ∃ (i : Nat) (x : List UInt8 × α), idxG l k = i ∧ l[i]? = some x ∧ x.1 = k ∧ seekL l k = some x.2 ∧ (∀ v, setL l k v = l.set i (x.1, v)) ∧ delL l k = l.take i ++ l.drop (i + 1) := by
  rcases idxG_cases k l with ⟨h1, h2⟩ | ⟨i, x, h1, h2, h3, h4⟩
  · exact Or.inl ⟨h1, seekL_none.2 h2⟩
  · refine Or.inr ⟨i, x, h1, h2, h3, ?_⟩
    clear h1
    induction l generalizing i with
    | nil => simp at h2
    | cons y l ih =>
      cases i with
      | zero =>
        simp at h2
        subst h2
        unfold seekL
        rw [List.find?_cons_of_pos (by simpa using h3)]
        refine ⟨rfl, fun v => ?_, ?_⟩
        · rw [setL, if_pos h3]; rfl
        · rw [delL, if_pos h3]; rfl
      | succ i =>
        have hy := h4 0 y (by omega) rfl
        obtain ⟨g1, g2, g3⟩ := ih i (by simpa using h2) (fun j z hj hz => h4 (j + 1) z (by omega) (by simpa using hz))
        unfold seekL at g1 ⊢
        rw [List.find?_cons_of_neg (by simpa using hy)]
        refine ⟨g1, fun v => ?_, ?_⟩
        · rw [setL, if_neg hy, g2, List.set_cons_succ]
        · rw [delL, if_neg hy, g3, List.take_succ_cons, List.drop_succ_cons, List.cons_append]

/-- The head of package table's. -/
def pHdr (Q seed n moved : Nat) (vA vB : Value) : Nat → Value
  | 0 => .pointer (some ⟨Q, 0, none⟩)
  | 1 => .int .u64 seed
  | 2 => .int .i64 n
  | 3 => vA
  | 4 => vB
  | _ => .int .i64 moved

/-- What every table keeps, and how great it is. -/
structure Good (h : List UInt8 → Nat) (m : Nat) (t : Tb α) : Prop where
  kept : Kept h t
  cnt : Counts t
  n : t.n ≤ m
  a : t.A.length ≤ 2 * m + 4
  b : t.B.length ≤ 2 * m + 4

theorem good_new (h : List UInt8 → Nat) : Good h 0 (newT : Tb α) := ⟨kept_new h, rfl, Nat.le_refl 0, Nat.le_refl 4, Nat.zero_le 4⟩

theorem Good.mono {h : List UInt8 → Nat} {m m' : Nat} {t : Tb α} (g : Good h m t) (hm : m ≤ m') : Good h m' t :=
  ⟨g.kept, g.cnt, Nat.le_trans g.n hm, by have := g.a; omega, by have := g.b; omega⟩

theorem good_step {h : List UInt8 → Nat} {m : Nat} {t : Tb α} (g : Good h m t) : Good h m (stepT h t) := by
  refine ⟨(kept_step h g.kept).1, counts_step h g.kept g.cnt, ?_, ?_, ?_⟩
  · unfold stepT
    split
    · exact g.n
    · split
      · exact g.n
      · exact g.n
  · unfold stepT
    split
    · exact g.a
    · split
      · show (spread h t.B _).length ≤ _
        rw [spread_length]; exact g.b
      · show (t.A.set _ _).length ≤ _
        rw [List.length_set]; exact g.a
  · unfold stepT
    split
    · exact g.b
    · split
      · show (if _ then _ else _ : List _).length ≤ _
        split
        · rw [List.length_replicate]; have := g.n; omega
        · exact Nat.zero_le _
      · show (spread h t.B _).length ≤ _
        rw [spread_length]; exact g.b

theorem good_put {h : List UInt8 → Nat} {m : Nat} {t : Tb α} (g : Good h m t) (k : List UInt8) (v : α) : Good h (m + 1) (putS h t k v) := by
  refine ⟨(kept_put h g.kept k v).1, counts_put h g.kept g.cnt k v, ?_, ?_, ?_⟩
  · have := g.n
    unfold putS
    split
    · show t.n ≤ _; omega
    · split
      · show t.n ≤ _; omega
      · split
        · show t.n + 1 ≤ _; omega
        · show t.n + 1 ≤ _; omega
  · have := g.a
    unfold putS
    split
    · show (t.A.modify _ _).length ≤ _
      rw [List.length_modify]; omega
    · split
      · show t.A.length ≤ _; omega
      · split
        · show (t.A.modify _ _).length ≤ _
          rw [List.length_modify]; omega
        · show t.A.length ≤ _; omega
  · have := g.b
    have := g.n
    unfold putS
    split
    · show t.B.length ≤ _; omega
    · split
      · show (t.B.modify _ _).length ≤ _
        rw [List.length_modify]; omega
      · split
        · show (if _ then _ else _ : List _).length ≤ _
          split
          · rw [List.length_replicate]; omega
          · exact Nat.zero_le _
        · show (t.B.modify _ _).length ≤ _
          rw [List.length_modify]; omega

theorem good_del {h : List UInt8 → Nat} {m : Nat} {t : Tb α} (g : Good h m t) (k : List UInt8) : Good h m (delS h t k) := by
  refine ⟨(kept_del h g.kept k).1, counts_del h g.kept g.cnt k, ?_, ?_, ?_⟩
  · have := g.n
    unfold delS
    split
    · show t.n - 1 ≤ _; omega
    · split
      · show t.n - 1 ≤ _; omega
      · exact this
  · have := g.a
    unfold delS
    split
    · show (t.A.modify _ _).length ≤ _
      rw [List.length_modify]; exact this
    · split
      · exact this
      · exact this
  · have := g.b
    have := g.a
    unfold delS
    split
    · show (if _ then _ else _ : List _).length ≤ _
      split
      · rw [List.length_replicate]; omega
      · assumption
    · split
      · show (t.B.modify _ _).length ≤ _
        rw [List.length_modify]; assumption
      · assumption

theorem mem_len {R : List (List (List UInt8 × α))} {i : Nat} {l : List (List UInt8 × α)} (hl : R[i]? = some l) : l.length ≤ R.flatten.length := by
  induction R generalizing i with
  | nil => simp at hl
  | cons x R ih =>
    rw [List.flatten_cons, List.length_append]
    cases i with
    | zero => simp at hl; subst hl; omega
    | succ i => have := ih (by simpa using hl); omega

theorem Good.bktA {h : List UInt8 → Nat} {m : Nat} {t : Tb α} (g : Good h m t) {i : Nat} {l : List (List UInt8 × α)} (hl : t.A[i]? = some l) : l.length ≤ m := by
  have h1 := all_length g.cnt
  unfold allT at h1
  rw [List.length_append] at h1
  have := mem_len hl
  have := g.n
  omega

theorem Good.bktB {h : List UInt8 → Nat} {m : Nat} {t : Tb α} (g : Good h m t) {i : Nat} {l : List (List UInt8 × α)} (hl : t.B[i]? = some l) : l.length ≤ m := by
  have h1 := all_length g.cnt
  unfold allT at h1
  rw [List.length_append] at h1
  have := mem_len hl
  have := g.n
  omega

/-- Package table's table in block Q. -/
def PT (K : Kd α) (w : World) (base : Nat) (ow : Own) (Q : Nat) (tyT : TypeId) (seed : Nat) (t : Tb α) (gA : Nat) (sA : Nat → Value) (gB : Nat) (sB : Nat → Value) : Prop :=
  TbOn K w base ow Q tyT 6 (pHdr Q seed t.n t.moved (rowV gA t.A.length) (rowV gB t.B.length)) t.A gA sA t.B gB sB

theorem rowV_pos {g n : Nat} (h : 0 < n) : rowV g n = .slice (some ⟨g, 0, none⟩) n n := by unfold rowV; rw [if_neg (by omega)]

/-- Where a key stands, or would. -/
def whereG (h : List UInt8 → Nat) (t : Tb α) (gA gB : Nat) (k : List UInt8) : Addr × Int :=
  if 0 ≤ idxG (t.A.getD (h k % t.A.length) []) k ∨ t.B.length = 0 then (⟨gA, h k % t.A.length, none⟩, idxG (t.A.getD (h k % t.A.length) []) k)
  else (⟨gB, h k % t.B.length, none⟩, idxG (t.B.getD (h k % t.B.length) []) k)

end

def strE (v : List UInt8) : Value := .string ⟨v.toArray⟩
def KI : Kd Int := ⟨97, 95, Value.int .i64⟩
def KS : Kd (List UInt8) := ⟨101, 90, strE⟩
def KR : Kd Int := ⟨42, 53, Value.int .i64⟩

theorem run_eql_nil_ptr {P : Program} (w : World) {tp te : TypeId} (a : Addr) (hp : P.underlying tp = some (.pointer te)) :
    (binOp .eql tp (.pointer none) (.pointer (some a))).run P w = .ok (.bool false) w := by
  have h : ∀ d : Nat, (Op.equalIn (d + 1) tp (.pointer none) (.pointer (some a))).run P w = .ok false w := fun d => by
    simp [Op.equalIn, run_underlying hp]
  simp only [binOp]
  simp [Op.equal, Op.maxDepth, h 9999]

set_option maxRecDepth 100000 in
set_option maxHeartbeats 4000000 in
theorem phash_same (seed : Nat) (hs : seed < 18446744073709551616) (T : ByteArray) (w : World) (hT : T.size ≤ 9223372036854775807) :
    Calls Try.prog 11 #[.int .u64 seed, .string T] w fun e w' => e = .returned (.int .u64 (hashT seed T.data.toList : Nat)) ∧ w' = w := by
  have e0 : bits .xor .u64 14695981039346656037 (seed : Int) = ((hinit seed : Nat) : Int) := by
    have hlit : (14695981039346656037 : Int) = ((14695981039346656037 : Nat) : Int) := by omega
    have hx := bits_xor_u64_nat 14695981039346656037 seed (by omega) hs
    rw [← hlit] at hx
    rw [hx, hinit]
  have hi0 := hinit_lt hs
  have HU : Hid (hashT seed T.data.toList = T.data.toList.foldl hstep (hinit seed)) := by unfold Hid; rw [hashT]
  rw [HU.out]
  obtain ⟨z0, hz0⟩ : ∃ z0, hinit seed = z0 := ⟨_, rfl⟩
  rw [hz0] at e0 hi0 ⊢
  clear hz0 HU
  go_enter Try.func11, Try.ntmps11
  go_wp2
  clear e0
  go_loopw [5, 11] (fun hv iv wr => ∃ i : Nat, iv = .int .i64 i ∧ i ≤ T.size ∧ hv = .int .u64 ((T.data.toList.take i).foldl hstep z0 : Nat) ∧ wr = w) (fun _ iv _ => T.size - (intOf iv).toNat)
  case atStart => exact ⟨0, rfl, by omega, rfl, rfl⟩
  case round =>
    obtain ⟨i, rfl, hi, rfl, rfl⟩ := hrel
    have hsl := hash_lt (T.data.toList.take i) z0 hi0
    obtain ⟨s, hsd⟩ : ∃ s, (T.data.toList.take i).foldl hstep z0 = s := ⟨_, rfl⟩
    have HS := Lib.hid hsd
    rw [hsd] at hsl ⊢
    clear hsd
    by_cases hlt : i < T.size
    · obtain ⟨c, hc⟩ : ∃ c : UInt8, (T[i]'hlt) = c := ⟨_, rfl⟩
      have HC : Hid (T.data.toList[i]? = some c) := by
        unfold Hid
        rw [List.getElem?_eq_getElem (by rw [Array.length_toList]; exact hlt), ← hc]
        rfl
      have HF : Hid ((T.data.toList.take (i + 1)).foldl hstep z0 = hstep s c) := by unfold Hid; rw [fold_take z0 _ i c HC.out, HS.out]
      obtain ⟨x, hx⟩ : ∃ x : Nat, c.toNat = x := ⟨_, rfl⟩
      have hx256 : x < 256 := by rw [← hx]; exact UInt8.toNat_lt _
      have e1 : bits .xor .u64 (s : Int) (x : Int) = ((s ^^^ x : Nat) : Int) := bits_xor_u64_nat s x hsl (by omega)
      have hy : s ^^^ x < 18446744073709551616 := xor64 hsl (by omega)
      obtain ⟨y, hyd⟩ : ∃ y, s ^^^ x = y := ⟨_, rfl⟩
      rw [hyd] at e1 hy
      have e2 : IntKind.u64.wrap ((y : Int) * 1099511628211) = ((y * 1099511628211 % 18446744073709551616 : Nat) : Int) := by rw [IntKind.wrap_u64]; omega
      have HE : Hid (hstep s c = y * 1099511628211 % 18446744073709551616) := by unfold Hid hstep; rw [hx, hyd]
      obtain ⟨z, hz⟩ : ∃ z, y * 1099511628211 % 18446744073709551616 = z := ⟨_, rfl⟩
      rw [hz] at e2 HE
      clear hyd hz
      go_wp2
      go_roundw
      case rel => exact ⟨i + 1, by go_num, by omega, by rw [HF.out, HE.out], by first | trivial | rfl⟩
      case measure => simp only [intOf]; omega
    · obtain rfl : i = T.size := by omega
      have HF : Hid (T.data.toList.foldl hstep z0 = s) := by
        unfold Hid
        rw [← HS.out, List.take_of_length_le (by rw [Array.length_toList]; exact Nat.le_refl _)]
      go_wp2
      go_ret
      exact ⟨by rw [HF.out]; rfl, rfl⟩

theorem phash_any (seed : Nat) (hs : seed < 18446744073709551616) (T : ByteArray) (w : World) (hT : T.size ≤ 9223372036854775807) :
    Calls Try.prog 11 #[.int .u64 seed, .string T] w fun e w' => e = .returned (.int .u64 (hashT seed T.data.toList : Nat)) ∧ Below w.heap.size w w' :=
  (phash_same seed hs T w hT).mono fun _ _ h => ⟨h.1, by rw [h.2]; exact Below.refl _ _⟩

end Go.Proofs.Ytcjoakbaldeaoaa
