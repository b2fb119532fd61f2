/-
  Plain theory of draws from a row of texts: which one a draw tells, some with coming again, some each once. No program's code.
-/
import Derived.Test.YtkobhlhkkpnmkaaMbB
namespace Go.Proofs.Ytkobhlhkkpnmkaa

/-- The k-th draw behind one. -/
def drN (d : Nat) : Nat → Nat
  | 0 => d
  | k + 1 => nxD (drN d k)
theorem drN_lt {d : Nat} (h : d < 18446744073709551616) : ∀ k, drN d k < 18446744073709551616
  | 0 => h
  | _ + 1 => nxD_lt _

/-- The one that a draw tells. -/
def atD (L : List Tx) (d : Nat) : Tx := (L[d % L.length]?).getD []
theorem atD_get {L : List Tx} (h : L ≠ []) (d : Nat) : L[d % L.length]? = some (atD L d) := by
  have hl : 0 < L.length := List.length_pos_iff.2 h
  unfold atD
  rw [List.getElem?_eq_getElem (Nat.mod_lt d hl)]
  rfl
theorem atD_mem {L : List Tx} (h : L ≠ []) (d : Nat) : atD L d ∈ L := List.mem_of_getElem? (atD_get h d)

/-- Some, each of which may come again. -/
def rpX (L : List Tx) (d n : Nat) : List Tx := (List.range n).map fun k => atD L (drN d k)
theorem rpX_len (L : List Tx) (d n : Nat) : (rpX L d n).length = n := by unfold rpX; simp
theorem rpX_get (L : List Tx) (d : Nat) {n k : Nat} (h : k < n) : (rpX L d n)[k]? = some (atD L (drN d k)) := by
  unfold rpX
  rw [List.getElem?_map, List.getElem?_range h]
  rfl
theorem rpX_succ (L : List Tx) (d k : Nat) : rpX L d (k + 1) = rpX L d k ++ [atD L (drN d k)] := by
  unfold rpX
  rw [List.range_succ, List.map_append]
  rfl
theorem rpX_mem {L : List Tx} (h : L ≠ []) {d n : Nat} {x : Tx} (hx : x ∈ rpX L d n) : x ∈ L := by
  unfold rpX at hx
  obtain ⟨k, _, rfl⟩ := List.mem_map.1 hx
  exact atD_mem h _

/-- Two of a row change places. -/
def swX (l : List Tx) (i j : Nat) : List Tx := (l.set i ((l[j]?).getD [])).set j ((l[i]?).getD [])
theorem swX_len (l : List Tx) (i j : Nat) : (swX l i j).length = l.length := by unfold swX; simp
theorem swX_get {l : List Tx} {i j : Nat} (hi : i < l.length) (hj : j < l.length) (k : Nat) : (swX l i j)[k]? = if k = j then l[i]? else if k = i then l[j]? else l[k]? := by
  unfold swX
  rw [List.getElem?_set, List.getElem?_set, List.length_set]
  have e1 : l[i]? = some l[i] := List.getElem?_eq_getElem hi
  have e2 : l[j]? = some l[j] := List.getElem?_eq_getElem hj
  rw [e1, e2]
  simp only [Option.getD_some]
  by_cases h1 : j = k
  · rw [if_pos h1, if_pos hj, if_pos h1.symm]
  · rw [if_neg h1, if_neg (show ¬ k = j from fun e => h1 e.symm)]
    by_cases h2 : i = k
    · rw [if_pos h2, if_pos hi, if_pos h2.symm]
    · rw [if_neg h2, if_neg (show ¬ k = i from fun e => h2 e.symm)]
theorem swX_perm {l : List Tx} {i j : Nat} (hi : i < l.length) (hj : j < l.length) : (swX l i j).Perm l := by
  refine List.perm_iff_count.2 fun a => ?_
  unfold swX
  have e1 : l[i]? = some l[i] := List.getElem?_eq_getElem hi
  have e2 : l[j]? = some l[j] := List.getElem?_eq_getElem hj
  rw [e1, e2]
  simp only [Option.getD_some]
  by_cases h : i = j
  · subst h
    simp
  · have hj' : j < (l.set i l[j]).length := by simpa using hj
    rw [List.count_set hj', List.count_set hi]
    rw [List.getElem_set_ne (fun e => h e)]
    have h1 : l[i] = a → 0 < l.count a := fun e => List.count_pos_iff.2 (e ▸ List.getElem_mem hi)
    have h2 : l[j] = a → 0 < l.count a := fun e => List.count_pos_iff.2 (e ▸ List.getElem_mem hj)
    by_cases q1 : l[i] = a <;> by_cases q2 : l[j] = a <;> simp [q1, q2] <;> (try have := h1 q1) <;> (try have := h2 q2) <;> omega

/-- A row behind some rounds of dealing. -/
def dlX (L : List Tx) (d : Nat) : Nat → List Tx
  | 0 => L
  | k + 1 => swX (dlX L d k) k (k + drN d k % (L.length - k))
theorem dlX_len (L : List Tx) (d : Nat) : ∀ k, (dlX L d k).length = L.length
  | 0 => rfl
  | k + 1 => by unfold dlX; rw [swX_len, dlX_len L d k]
theorem dl_at {L : List Tx} {k : Nat} (h : k < L.length) (d : Nat) : k + d % (L.length - k) < L.length := by
  have := Nat.mod_lt d (show 0 < L.length - k by omega)
  omega
theorem dlX_perm (L : List Tx) (d : Nat) : ∀ k, k ≤ L.length → (dlX L d k).Perm L
  | 0, _ => List.Perm.refl _
  | k + 1, h => by
    unfold dlX
    exact (swX_perm (by rw [dlX_len]; omega) (by rw [dlX_len]; exact dl_at (by omega) _)).trans (dlX_perm L d k (by omega))
/-- The first places stand still from then on. -/
theorem dlX_take {L : List Tx} (d : Nat) {k : Nat} (h : k < L.length) : (dlX L d (k + 1)).take k = (dlX L d k).take k := by
  apply List.ext_getElem?
  intro j
  rw [List.getElem?_take, List.getElem?_take]
  by_cases hj : j < k
  · rw [if_pos hj, if_pos hj]
    show (swX (dlX L d k) k _)[j]? = _
    rw [swX_get (by rw [dlX_len]; exact h) (by rw [dlX_len]; exact dl_at h _), if_neg (by omega), if_neg (by omega)]
  · rw [if_neg hj, if_neg hj]
theorem dlX_next {L : List Tx} (d : Nat) {k : Nat} (h : k < L.length) {x : Tx} (hx : (dlX L d (k + 1))[k]? = some x) : (dlX L d (k + 1)).take (k + 1) = (dlX L d k).take k ++ [x] := by
  rw [List.take_add_one, hx, dlX_take d h]
  rfl

/-- What Some tells. -/
def smX (L : List Tx) (n : Int) (d : Nat) : List Tx :=
  if ¬ Ris L then [] else if n < -1024 ∨ 65536 < n then [] else if L = [] then [] else if n < 0 then rpX L d (-n).toNat else (dlX L d (min n.toNat L.length)).take (min n.toNat L.length)
def smE (L : List Tx) (n : Int) : Int := if ¬ Ris L then 80 else if n < -1024 ∨ 65536 < n then 1 else 0
theorem smX_no {L : List Tx} (hr : ¬ Ris L) (n : Int) (d : Nat) : smX L n d = [] ∧ smE L n = 80 := ⟨if_pos hr, if_pos hr⟩
theorem smX_out {L : List Tx} (hr : Ris L) {n : Int} (hn : n < -1024 ∨ 65536 < n) (d : Nat) : smX L n d = [] ∧ smE L n = 1 := by
  unfold smX smE
  exact ⟨by rw [if_neg (show ¬ ¬ Ris L from fun e => e hr), if_pos hn], by rw [if_neg (show ¬ ¬ Ris L from fun e => e hr), if_pos hn]⟩
theorem smE_in {L : List Tx} (hr : Ris L) {n : Int} (hn : ¬ (n < -1024 ∨ 65536 < n)) : smE L n = 0 := by
  unfold smE
  rw [if_neg (show ¬ ¬ Ris L from fun e => e hr), if_neg hn]
theorem smX_nil {n : Int} (hn : ¬ (n < -1024 ∨ 65536 < n)) (d : Nat) : smX [] n d = [] := by
  unfold smX
  rw [if_neg (show ¬ ¬ Ris [] from fun e => e List.Pairwise.nil), if_neg hn, if_pos rfl]
theorem smX_neg {L : List Tx} (hr : Ris L) {n : Int} (hn : ¬ (n < -1024 ∨ 65536 < n)) (hL : L ≠ []) (h : n < 0) (d : Nat) : smX L n d = rpX L d (-n).toNat := by
  unfold smX
  rw [if_neg (show ¬ ¬ Ris L from fun e => e hr), if_neg hn, if_neg hL, if_pos h]
theorem smX_pos {L : List Tx} (hr : Ris L) {n : Int} (hn : ¬ (n < -1024 ∨ 65536 < n)) (hL : L ≠ []) (h : ¬ n < 0) (d : Nat) : smX L n d = (dlX L d (min n.toNat L.length)).take (min n.toNat L.length) := by
  unfold smX
  rw [if_neg (show ¬ ¬ Ris L from fun e => e hr), if_neg hn, if_neg hL, if_neg h]
/-- What Pick tells. -/
def pkX (L : List Tx) (d : Nat) : Tx := if Ris L ∧ L ≠ [] then atD L d else []
def pkB (L : List Tx) : Bool := decide (Ris L ∧ L ≠ [])

theorem nodup_of_ris {l : List Tx} (h : Ris l) : l.Nodup := h.imp (fun {a b} (hab : a < b) (e : a = b) => tx_irrefl b (by rw [e] at hab; exact hab))

/-- What draws tell are members, each once where each may come once. -/
theorem smX_law {L : List Tx} (hr : Ris L) {n : Int} (h1 : -1024 ≤ n) (h2 : n ≤ 65536) (d : Nat) :
    (0 ≤ n → ((smX L n d).length : Int) = min n L.length) ∧ (n < 0 → 0 < L.length → ((smX L n d).length : Int) = -n) ∧ (∀ x ∈ smX L n d, x ∈ L) ∧ (0 ≤ n → (smX L n d).Nodup) := by
  unfold smX
  rw [if_neg (fun e => e hr), if_neg (by omega)]
  by_cases hL : L = []
  · subst hL
    rw [if_pos rfl]
    exact ⟨fun _ => by simp; omega, fun _ h => by simp at h, fun x hx => hx, fun _ => List.nodup_nil⟩
  · rw [if_neg hL]
    by_cases hn : n < 0
    · rw [if_pos hn]
      exact ⟨fun h => by omega, fun _ _ => by rw [rpX_len]; omega, fun x hx => rpX_mem hL hx, fun h => by omega⟩
    · rw [if_neg hn]
      have hp := dlX_perm L d (min n.toNat L.length) (Nat.min_le_right _ _)
      refine ⟨fun _ => ?_, fun h => by omega, fun x hx => hp.mem_iff.1 (List.mem_of_mem_take hx), fun _ => ?_⟩
      · rw [List.length_take, dlX_len]
        omega
      · exact (List.take_sublist _ _).nodup (hp.nodup_iff.2 (nodup_of_ris hr))

end Go.Proofs.Ytkobhlhkkpnmkaa
