/-
  Plain facts for a table's Map: every key's value told by the key; a row made anew key by key; a row filled with values in All's order. No program. TableMaps' own function: it counts its calls in a box, and tells the key with a mark behind it. Conditions: the box. A table that is filled with values, bucket by bucket. No program's code.
-/
import Derived.Test.YtcjoakbaldeaoaaTaB
import Derived.Test.YtcjoakbaldeaoaaTbM
import Derived.Test.YtcjoakbaldeaoaaRet
import Derived.Test.YtcjoakbaldeaoaaTbK
import Derived.RangeFuncNested
import Derived.RangeFuncBound
import Derived.RangeFuncCalls
import Derived.RangeFuncLeaves
import Derived.RangeFuncRecord
import Derived.OwnWalkIn
import Derived.TacticsInMore
import Derived.LoopNIn
import Derived.LoopIn
import Derived.WalkKit
namespace Go.Proofs.Ytcjoakbaldeaoaa
open Go.RowKit

section
section
variable {α β : Type}

/-- The same keys, each with what g tells of it. -/
def keyL (g : List UInt8 → β) (l : List (List UInt8 × α)) : List (List UInt8 × β) := l.map fun x => (x.1, g x.1)
def keyR (g : List UInt8 → β) (R : List (List (List UInt8 × α))) : List (List (List UInt8 × β)) := R.map (keyL g)
def keyT (g : List UInt8 → β) (t : Tb α) : Tb β := ⟨keyR g t.A, keyR g t.B, t.moved, t.n⟩

theorem keyL_length (g : List UInt8 → β) (l : List (List UInt8 × α)) : (keyL g l).length = l.length := List.length_map _
theorem keyR_length (g : List UInt8 → β) (R : List (List (List UInt8 × α))) : (keyR g R).length = R.length := List.length_map _
theorem keyL_at (g : List UInt8 → β) {l : List (List UInt8 × α)} {j : Nat} {x : List UInt8 × α} (h : l[j]? = some x) : (keyL g l)[j]? = some (x.1, g x.1) := by
  unfold keyL
  rw [List.getElem?_map, h]
  rfl
theorem keyL_app (g : List UInt8 → β) (l m : List (List UInt8 × α)) : keyL g (l ++ m) = keyL g l ++ keyL g m := List.map_append
theorem all_key (g : List UInt8 → β) (t : Tb α) : allT (keyT g t) = keyL g (allT t) := by
  unfold allT keyT keyR keyL
  simp [List.map_flatten]

/-- Of a row made anew: the first i buckets whole, of the next one j keys. -/
def brB (g : List UInt8 → β) (R : List (List (List UInt8 × α))) (i j k : Nat) : List (List UInt8 × β) := if k < i then keyL g (R.getD k []) else if k = i then keyL g ((R.getD k []).take j) else []
def brR (g : List UInt8 → β) (R : List (List (List UInt8 × α))) (i j : Nat) : List (List (List UInt8 × β)) := (List.range R.length).map (brB g R i j)
theorem brR_length (g : List UInt8 → β) (R : List (List (List UInt8 × α))) (i j : Nat) : (brR g R i j).length = R.length := by unfold brR; simp
theorem brR_get (g : List UInt8 → β) (R : List (List (List UInt8 × α))) (i j k : Nat) : (brR g R i j)[k]? = if k < R.length then some (brB g R i j k) else none := by
  unfold brR
  rw [List.getElem?_map]
  by_cases h : k < R.length
  · rw [if_pos h, List.getElem?_range h]; rfl
  · rw [if_neg h, List.getElem?_eq_none (by rw [List.length_range]; omega)]; rfl
theorem getD_of {R : List (List (List UInt8 × α))} {i : Nat} {l : List (List UInt8 × α)} (h : R[i]? = some l) : R.getD i [] = l := by
  rw [List.getD_eq_getElem?_getD, h]
  rfl
theorem br_start (g : List UInt8 → β) (R : List (List (List UInt8 × α))) : brR g R 0 0 = List.replicate R.length [] := by
  refine List.ext_getElem? fun k => ?_
  rw [brR_get, List.getElem?_replicate]
  split
  · unfold brB
    rw [if_neg (Nat.not_lt_zero k)]
    split
    · rw [List.take_zero]; rfl
    · rfl
  · rfl
theorem br_at (g : List UInt8 → β) {R : List (List (List UInt8 × α))} {i : Nat} {l : List (List UInt8 × α)} (h : R[i]? = some l) (j : Nat) : (brR g R i j)[i]? = some (keyL g (l.take j)) := by
  rw [brR_get, if_pos (List.getElem?_eq_some_iff.1 h).1]
  unfold brB
  rw [if_neg (Nat.lt_irrefl i), if_pos rfl, getD_of h]
theorem br_more (g : List UInt8 → β) {R : List (List (List UInt8 × α))} {i : Nat} {l : List (List UInt8 × α)} (h : R[i]? = some l) {j : Nat} {x : List UInt8 × α} (hx : l[j]? = some x) : (brR g R i j).set i (keyL g (l.take j) ++ [(x.1, g x.1)]) = brR g R i (j + 1) := by
  have hi := (List.getElem?_eq_some_iff.1 h).1
  refine List.ext_getElem? fun k => ?_
  rw [List.getElem?_set, brR_length, brR_get, brR_get]
  by_cases e : i = k
  · subst e
    rw [if_pos rfl, if_pos hi, if_pos hi]
    unfold brB
    rw [if_neg (Nat.lt_irrefl i), if_pos rfl, getD_of h, List.take_add_one, hx, keyL_app]
    rfl
  · rw [if_neg e]
    unfold brB
    split
    · split
      · rfl
      · rw [if_neg (fun q => e q.symm), if_neg (fun q => e q.symm)]
    · rfl
theorem br_next (g : List UInt8 → β) {R : List (List (List UInt8 × α))} {i : Nat} {l : List (List UInt8 × α)} (h : R[i]? = some l) : brR g R i l.length = brR g R (i + 1) 0 := by
  refine List.ext_getElem? fun k => ?_
  rw [brR_get, brR_get]
  split
  · unfold brB
    by_cases e : k < i
    · rw [if_pos e, if_pos (by omega)]
    · rw [if_neg e]
      by_cases e2 : k = i
      · subst e2
        rw [if_pos rfl, if_pos (by omega), getD_of h, List.take_length]
      · rw [if_neg e2, if_neg (by omega)]
        split
        · rw [List.take_zero]; rfl
        · rfl
  · rfl
theorem br_end (g : List UInt8 → β) (R : List (List (List UInt8 × α))) : brR g R R.length 0 = keyR g R := by
  refine List.ext_getElem? fun k => ?_
  rw [brR_get]
  unfold keyR
  rw [List.getElem?_map]
  split
  · rename_i hk
    unfold brB
    rw [if_pos hk, getD_of (List.getElem?_eq_getElem hk), List.getElem?_eq_getElem hk]
    rfl
  · rename_i hk
    rw [List.getElem?_eq_none (by omega)]
    rfl

/-- Of a row that is filled: the first i buckets whole, of the next one j values. -/
def fiB (f g : List UInt8 → β) (R : List (List (List UInt8 × α))) (i j k : Nat) : List (List UInt8 × β) := if k < i then keyL g (R.getD k []) else if k = i then keyL g ((R.getD k []).take j) ++ keyL f ((R.getD k []).drop j) else keyL f (R.getD k [])
def fiR (f g : List UInt8 → β) (R : List (List (List UInt8 × α))) (i j : Nat) : List (List (List UInt8 × β)) := (List.range R.length).map (fiB f g R i j)
theorem fiR_length (f g : List UInt8 → β) (R : List (List (List UInt8 × α))) (i j : Nat) : (fiR f g R i j).length = R.length := by unfold fiR; simp
theorem fiR_get (f g : List UInt8 → β) (R : List (List (List UInt8 × α))) (i j k : Nat) : (fiR f g R i j)[k]? = if k < R.length then some (fiB f g R i j k) else none := by
  unfold fiR
  rw [List.getElem?_map]
  by_cases h : k < R.length
  · rw [if_pos h, List.getElem?_range h]; rfl
  · rw [if_neg h, List.getElem?_eq_none (by rw [List.length_range]; omega)]; rfl
theorem fi_start (f g : List UInt8 → β) (R : List (List (List UInt8 × α))) : fiR f g R 0 0 = keyR f R := by
  refine List.ext_getElem? fun k => ?_
  rw [fiR_get]
  unfold keyR
  rw [List.getElem?_map]
  split
  · rename_i hk
    unfold fiB
    rw [if_neg (Nat.not_lt_zero k), getD_of (List.getElem?_eq_getElem hk), List.getElem?_eq_getElem hk]
    split
    · rw [List.take_zero, List.drop_zero]; rfl
    · rfl
  · rename_i hk
    rw [List.getElem?_eq_none (by omega)]
    rfl
theorem fi_at (f g : List UInt8 → β) {R : List (List (List UInt8 × α))} {i : Nat} {l : List (List UInt8 × α)} (h : R[i]? = some l) (j : Nat) : (fiR f g R i j)[i]? = some (keyL g (l.take j) ++ keyL f (l.drop j)) := by
  rw [fiR_get, if_pos (List.getElem?_eq_some_iff.1 h).1]
  unfold fiB
  rw [if_neg (Nat.lt_irrefl i), if_pos rfl, getD_of h]
theorem fi_item (f g : List UInt8 → β) {l : List (List UInt8 × α)} {j : Nat} {x : List UInt8 × α} (hx : l[j]? = some x) : (keyL g (l.take j) ++ keyL f (l.drop j))[j]? = some (x.1, f x.1) := by
  have hj := (List.getElem?_eq_some_iff.1 hx).1
  have hlen : (keyL g (l.take j)).length = j := by rw [keyL_length, List.length_take]; omega
  rw [List.getElem?_append_right (by omega), hlen, Nat.sub_self]
  exact keyL_at f (by rw [List.getElem?_drop]; simpa using hx)
theorem fi_more (f g : List UInt8 → β) {R : List (List (List UInt8 × α))} {i : Nat} {l : List (List UInt8 × α)} (h : R[i]? = some l) {j : Nat} {x : List UInt8 × α} (hx : l[j]? = some x) : (fiR f g R i j).set i ((keyL g (l.take j) ++ keyL f (l.drop j)).set j (x.1, g x.1)) = fiR f g R i (j + 1) := by
  have hi := (List.getElem?_eq_some_iff.1 h).1
  have hj := (List.getElem?_eq_some_iff.1 hx).1
  refine List.ext_getElem? fun k => ?_
  rw [List.getElem?_set, fiR_length, fiR_get, fiR_get]
  by_cases e : i = k
  · subst e
    rw [if_pos rfl, if_pos hi, if_pos hi]
    unfold fiB
    rw [if_neg (Nat.lt_irrefl i), if_pos rfl, getD_of h, List.take_add_one, hx, keyL_app]
    have hlen : (keyL g (l.take j)).length = j := by rw [keyL_length, List.length_take]; omega
    rw [List.set_append_right _ _ (by omega), hlen, Nat.sub_self, List.append_assoc]
    have hd : l.drop j = x :: l.drop (j + 1) := by
      rw [List.drop_eq_getElem_cons hj]
      rw [List.getElem?_eq_getElem hj] at hx
      injection hx with hx
      rw [hx]
    rw [hd]
    rfl
  · rw [if_neg e]
    unfold fiB
    split
    · split
      · rfl
      · rw [if_neg (fun q => e q.symm), if_neg (fun q => e q.symm)]
    · rfl
theorem fi_next (f g : List UInt8 → β) {R : List (List (List UInt8 × α))} {i : Nat} {l : List (List UInt8 × α)} (h : R[i]? = some l) : fiR f g R i l.length = fiR f g R (i + 1) 0 := by
  refine List.ext_getElem? fun k => ?_
  rw [fiR_get, fiR_get]
  split
  · unfold fiB
    by_cases e : k < i
    · rw [if_pos e, if_pos (by omega)]
    · rw [if_neg e]
      by_cases e2 : k = i
      · subst e2
        rw [if_pos rfl, if_pos (by omega), getD_of h, List.take_length, List.drop_length]
        simp [keyL]
      · rw [if_neg e2, if_neg (by omega)]
        split
        · rw [List.take_zero, List.drop_zero]; rfl
        · rfl
  · rfl
theorem fi_end (f g : List UInt8 → β) (R : List (List (List UInt8 × α))) : fiR f g R R.length 0 = keyR g R := by
  refine List.ext_getElem? fun k => ?_
  rw [fiR_get]
  unfold keyR
  rw [List.getElem?_map]
  split
  · rename_i hk
    unfold fiB
    rw [if_pos hk, getD_of (List.getElem?_eq_getElem hk), List.getElem?_eq_getElem hk]
    rfl
  · rename_i hk
    rw [List.getElem?_eq_none (by omega)]
    rfl

/-- The values of a row's keys, and more, in All's order. -/
def vsL (g : List UInt8 → β) (l : List (List UInt8 × α)) : List β := l.map fun x => g x.1
theorem vs_snoc (g : List UInt8 → β) {l : List (List UInt8 × α)} {j : Nat} {x : List UInt8 × α} (hx : l[j]? = some x) : vsL g (l.take (j + 1)) = vsL g (l.take j) ++ [g x.1] := by
  unfold vsL
  rw [List.take_add_one, hx, List.map_append]
  rfl
theorem cnt_take (R : List (List (List UInt8 × α))) {i : Nat} {l : List (List UInt8 × α)} (h : R[i]? = some l) : cnt (R.take (i + 1)) = cnt (R.take i) + l.length := by
  rw [← cnt_flatten, ← cnt_flatten, List.take_add_one, h]
  simp
theorem vs_at (g : List UInt8 → β) {R : List (List (List UInt8 × α))} (S : List (List UInt8 × α)) {i : Nat} {l : List (List UInt8 × α)} (h : R[i]? = some l) {j : Nat} {x : List UInt8 × α} (hx : l[j]? = some x) : ((vsL g (R.flatten ++ S)).drop (cnt (R.take i)))[j]? = some (g x.1) := by
  have hi := (List.getElem?_eq_some_iff.1 h).1
  have hj := (List.getElem?_eq_some_iff.1 hx).1
  have hR : R = R.take i ++ l :: R.drop (i + 1) := by
    have q := List.take_append_drop i R
    rw [List.drop_eq_getElem_cons hi] at q
    rw [List.getElem?_eq_getElem hi] at h
    injection h with h
    rw [h] at q
    exact q.symm
  unfold vsL
  rw [List.getElem?_drop, List.getElem?_map]
  have e : (R.flatten ++ S)[cnt (R.take i) + j]? = some x := by
    have hF : R.flatten = (R.take i).flatten ++ (l ++ (R.drop (i + 1)).flatten) := by
      conv => lhs; rw [hR]
      rw [List.flatten_append, List.flatten_cons]
    obtain ⟨N, hN⟩ : ∃ N, cnt (R.take i) = N := ⟨_, rfl⟩
    have hN2 : (R.take i).flatten.length = N := (cnt_flatten _).trans hN
    rw [hN, hF, List.append_assoc, List.append_assoc, List.getElem?_append_right (by omega), hN2, Nat.add_sub_cancel_left, List.getElem?_append_left hj]
    exact hx
  rw [e]
  rfl
end
end

section
/-- What it tells of a key. -/
def telK (k : List UInt8) : List UInt8 := k ++ [33]

set_option maxRecDepth 100000 in
set_option maxHeartbeats 8000000 in
theorem tell_any (k : List UInt8) (v : Int) (w : World) (g : Nat) (c : Int) (hk : k.length ≤ 140737488355328) (h0 : 0 ≤ c) (h1 : c ≤ 1000000) (hc : w.cell? ⟨g, 0, none⟩ = some (.int .i64 c)) (hf : w.frozen? ⟨g, 0, none⟩ = false) :
    Calls Try.prog 23 #[.string ⟨k.toArray⟩, .int .i64 v, .pointer (some ⟨g, 0, none⟩)] w fun e w' => e = .returned (.string ⟨(telK k).toArray⟩) ∧ w' = w.setCell ⟨g, 0, none⟩ (.int .i64 (c + 1)) := by
  have hw : IntKind.i64.wrap (c + 1) = c + 1 := IntWalk.i64_in _ (by omega)
  have HT : Hid ((⟨k.toArray⟩ : ByteArray) ++ ⟨#[33]⟩ = ⟨(telK k).toArray⟩) := by
    unfold Hid telK
    apply ByteArray.ext
    simp
  have hs : ¬ 9223372036854775807 < (⟨k.toArray⟩ : ByteArray).size + 1 := by
    have q : (⟨k.toArray⟩ : ByteArray).size = k.length := by show k.toArray.size = _; simp
    omega
  obtain ⟨T, hT⟩ : ∃ T : ByteArray, (⟨k.toArray⟩ : ByteArray) = T := ⟨_, rfl⟩
  rw [hT] at HT hs ⊢
  rw [← HT.out]
  clear hT
  go_enter Try.func23, Try.ntmps23
  go_wp2
  go_ret
  exact ⟨rfl, rfl⟩
end

section
section
variable {α β : Type}

theorem fi_over (f g : List UInt8 → β) (R : List (List (List UInt8 × α))) {i : Nat} (j : Nat) (h : R.length ≤ i) : fiR f g R i j = keyR g R := by
  refine List.ext_getElem? fun k => ?_
  rw [fiR_get]
  unfold keyR
  rw [List.getElem?_map]
  split
  · rename_i hk
    unfold fiB
    rw [if_pos (by omega), getD_of (List.getElem?_eq_getElem hk), List.getElem?_eq_getElem hk]
    rfl
  · rename_i hk
    rw [List.getElem?_eq_none (by omega)]
    rfl

/-- Of the second row: how many values of its bucket. -/
def jB (na p j : Nat) : Nat := if p < na then 0 else j

/-- p buckets are filled whole, of the next one j values. -/
structure FilAt (K : Kd β) (w0 w : World) (base : Nat) (o : Own) (Q : Nat) (ty : TypeId) (nh : Nat) (hdr : Nat → Value) (f g : List UInt8 → β) (t : Tb α) (gA : Nat) (sA : Nat → Value) (gB : Nat) (sB : Nat → Value) (p j : Nat) : Prop where
  on : ∃ o', TbOn K w base o' Q ty nh hdr (fiR f g t.A p j) gA sA (fiR f g t.B (p - t.A.length) (jB t.A.length p j)) gB sB ∧ Turns o o' w0 w ∧ ∀ k, o' k ≠ none → k < w0.heap.size

section
variable {K : Kd β} {w0 w w' : World} {base : Nat} {o : Own} {Q : Nat} {ty : TypeId} {nh : Nat} {hdr : Nat → Value} {f g : List UInt8 → β} {t : Tb α} {gA gB : Nat} {sA sB : Nat → Value} {p j : Nat}

theorem FilAt.start (h : TbOn K w base o Q ty nh hdr (keyR f t.A) gA sA (keyR f t.B) gB sB) : FilAt K w w base o Q ty nh hdr f g t gA sA gB sB 0 0 := by
  refine ⟨o, ?_, Turns.refl _ _, fun k hk => (h.dom k hk).2⟩
  rw [fi_start, Nat.zero_sub, show jB t.A.length 0 0 = 0 from by unfold jB; split <;> rfl, fi_start]
  exact h

/-- Of what lay there ahead nothing has turned since. -/
theorem FilAt.keep (h : FilAt K w0 w base o Q ty nh hdr f g t gA sA gB sB p j) (hs : w.heap.size ≤ w'.heap.size) (os : w'.os = w.os) (tape : w'.tape = w.tape) (out : w'.output = w.output) (hk : ∀ k, k < w0.heap.size → w'.heap[k]? = w.heap[k]?) : FilAt K w0 w' base o Q ty nh hdr f g t gA sA gB sB p j := by
  obtain ⟨o', h1, h2, h3⟩ := h.on
  exact ⟨o', h1.keep hs (fun k hn => hk k (h3 k hn)), ⟨os.trans h2.os, tape.trans h2.tape, out.trans h2.output, Nat.le_trans h2.size hs, fun k hl ho => (hk k hl).trans (h2.block k hl ho), h2.same⟩, h3⟩

theorem FilAt.next (h : FilAt K w0 w base o Q ty nh hdr f g t gA sA gB sB p j) {l : List (List UInt8 × α)} (hl : (t.A ++ t.B)[p]? = some l) (hj : j = l.length) : FilAt K w0 w base o Q ty nh hdr f g t gA sA gB sB (p + 1) 0 := by
  subst hj
  obtain ⟨o', h1, h2, h3⟩ := h.on
  refine ⟨o', ?_, h2, h3⟩
  by_cases hp : p < t.A.length
  · rw [List.getElem?_append_left hp] at hl
    rw [show p - t.A.length = 0 from by omega, show jB t.A.length p l.length = 0 from by unfold jB; rw [if_pos hp], fi_next f g hl] at h1
    rw [show p + 1 - t.A.length = 0 from by omega, show jB t.A.length (p + 1) 0 = 0 from by unfold jB; split <;> rfl]
    exact h1
  · rw [List.getElem?_append_right (by omega)] at hl
    rw [fi_over f g t.A _ (by omega), show jB t.A.length p l.length = l.length from by unfold jB; rw [if_neg hp], fi_next f g hl] at h1
    rw [fi_over f g t.A _ (by omega), show p + 1 - t.A.length = p - t.A.length + 1 from by omega, show jB t.A.length (p + 1) 0 = 0 from by unfold jB; split <;> rfl]
    exact h1

theorem FilAt.done (h : FilAt K w0 w base o Q ty nh hdr f g t gA sA gB sB (t.A.length + t.B.length) 0) : ∃ o', TbOn K w base o' Q ty nh hdr (keyR g t.A) gA sA (keyR g t.B) gB sB ∧ Turns o o' w0 w := by
  obtain ⟨o', h1, h2, h3⟩ := h.on
  refine ⟨o', ?_, h2⟩
  rw [fi_over f g t.A _ (by omega), fi_over f g t.B _ (by omega)] at h1
  exact h1

/-- The slice of bucket p. -/
def slP (na : Nat) (sA sB : Nat → Value) (p : Nat) : Value := if p < na then sA p else sB (p - na)

theorem FilAt.item (h : FilAt K w0 w base o Q ty nh hdr f g t gA sA gB sB p j) (hpos : 0 < t.A.length) {l : List (List UInt8 × α)} (hl : (t.A ++ t.B)[p]? = some l) : ∃ A c, slP t.A.length sA sB p = .slice A l.length c ∧ l.length ≤ c ∧ c ≤ 9223372036854775807 ∧
    (∀ x, l[j]? = some x → ∃ b, A = some ⟨b, 0, none⟩ ∧ b < w0.heap.size ∧ b ≠ gA ∧ (0 < t.B.length → b ≠ gB) ∧ (∃ u, w.cell? ⟨b, j * 2 + 1, none⟩ = some u) ∧ w.frozen? ⟨b, j * 2 + 1, none⟩ = false ∧ o b ≠ none ∧
      FilAt K w0 (w.setCell ⟨b, j * 2 + 1, none⟩ (K.enc (g x.1))) base o Q ty nh hdr f g t gA sA gB sB p (j + 1)) := by
  obtain ⟨o', h1, h2, h3⟩ := h.on
  -- one side
  have side : ∀ (RA RB : List (List (List UInt8 × β))) (gA gB : Nat) (sA sB : Nat → Value) (i : Nat) (m : List (List UInt8 × α)), TbOn K w base o' Q ty nh hdr RA gA sA RB gB sB → RA[i]? = some (keyL g (m.take j) ++ keyL f (m.drop j)) → ∃ A c, sA i = .slice A m.length c ∧ m.length ≤ c ∧ c ≤ 9223372036854775807 ∧
      (∀ x, m[j]? = some x → ∃ b, A = some ⟨b, 0, none⟩ ∧ b < w.heap.size ∧ b ≠ gA ∧ (0 < RB.length → b ≠ gB) ∧ (∃ u, w.cell? ⟨b, j * 2 + 1, none⟩ = some u) ∧ w.frozen? ⟨b, j * 2 + 1, none⟩ = false ∧ o' b ≠ none ∧
        ∃ o2, TbOn K (w.setCell ⟨b, j * 2 + 1, none⟩ (K.enc (g x.1))) base o2 Q ty nh hdr (RA.set i ((keyL g (m.take j) ++ keyL f (m.drop j)).set j (x.1, g x.1))) gA sA RB gB sB ∧ Turns o' o2 w (w.setCell ⟨b, j * 2 + 1, none⟩ (K.enc (g x.1)))) := by
    intro RA RB gA gB sA sB i m hon hi
    have hlen : (keyL g (m.take j) ++ keyL f (m.drop j)).length = m.length := by
      rw [List.length_append, keyL_length, keyL_length, List.length_take, List.length_drop]
      omega
    have hbk := hon.a.bkt i _ hi
    rw [hlen] at hbk
    have hform : ∃ A c, sA i = .slice A m.length c ∧ m.length ≤ c ∧ c ≤ 9223372036854775807 := by
      rcases hbk.2 with ⟨q1, q2⟩ | ⟨b, cap, cur, hv, _, _, hnc, hcm, _⟩
      · exact ⟨none, 0, by rw [q1, q2], by omega, by omega⟩
      · exact ⟨_, cap, hv, hnc, by unfold maxLen at hcm; exact hcm⟩
    obtain ⟨A, c, hs, hc1, hc2⟩ := hform
    refine ⟨A, c, hs, hc1, hc2, fun x hx => ?_⟩
    have hj := (List.getElem?_eq_some_iff.1 hx).1
    obtain ⟨b, hA⟩ : ∃ b, A = some ⟨b, 0, none⟩ := by
      rcases hbk.2 with ⟨q1, q2⟩ | ⟨b, cap, cur, hv, _⟩
      · omega
      · rw [hs] at hv
        injection hv with hv _ _
        exact ⟨b, hv⟩
    subst hA
    rw [hs] at hbk
    have hob : (sA i).ownBlock = some b := by rw [hs]; rfl
    have hit := fi_item f g hx
    refine ⟨b, rfl, (hbk.lt b rfl).2, hon.bA hi hob, fun q => hon.bB hi hob q, ?_, World.ownsRow.frozenAt hbk _, by rw [hon.a.lab i _ b hi hob]; exact fun e => (by cases e), ?_⟩
    · have e := (encIt_get K.enc _ j _ hit).2
      exact ⟨_, (World.ownsRow.cellAt hbk (j * 2 + 1) (by omega)).trans e⟩
    · exact hon.storeV hi hit hs (g x.1)
  by_cases hp : p < t.A.length
  · rw [List.getElem?_append_left hp] at hl
    obtain ⟨A, c, e1, e2, e3, e4⟩ := side _ _ gA gB sA sB p l h1 (fi_at f g hl j)
    refine ⟨A, c, by unfold slP; rw [if_pos hp]; exact e1, e2, e3, fun x hx => ?_⟩
    obtain ⟨b, f1, f2, f3, f4, f5, f6, f7, o2, f8, f9⟩ := e4 x hx
    refine ⟨b, f1, h3 b f7, f3, by rw [fiR_length] at f4; exact f4, f5, f6, by rw [← h2.same b (h3 b f7)]; exact f7, o2, ?_, h2.trans f9, fun k hk => by
      have hz : (w.setCell ⟨b, j * 2 + 1, none⟩ (K.enc (g x.1))).heap.size = w.heap.size := by simp [World.setCell]
      have hkl := (f8.dom k hk).2
      rw [hz] at hkl
      rw [f9.same k hkl] at hk
      exact h3 k hk⟩
    rw [fi_more f g hl hx] at f8
    rw [show jB t.A.length p (j + 1) = jB t.A.length p j from by unfold jB; rw [if_pos hp, if_pos hp]]
    exact f8
  · rw [List.getElem?_append_right (by omega)] at hl
    have e0 : jB t.A.length p j = j := by unfold jB; rw [if_neg hp]
    rw [e0] at h1
    obtain ⟨A, c, e1, e2, e3, e4⟩ := side _ _ gB gA sB sA (p - t.A.length) l h1.symm (fi_at f g hl j)
    refine ⟨A, c, by unfold slP; rw [if_neg hp]; exact e1, e2, e3, fun x hx => ?_⟩
    obtain ⟨b, f1, f2, f3, f4, f5, f6, f7, o2, f8, f9⟩ := e4 x hx
    refine ⟨b, f1, h3 b f7, ?_, fun _ => f3, f5, f6, by rw [← h2.same b (h3 b f7)]; exact f7, o2, ?_, h2.trans f9, fun k hk => by
      have hz : (w.setCell ⟨b, j * 2 + 1, none⟩ (K.enc (g x.1))).heap.size = w.heap.size := by simp [World.setCell]
      have hkl := (f8.dom k hk).2
      rw [hz] at hkl
      rw [f9.same k hkl] at hk
      exact h3 k hk⟩
    · exact f4 (by rw [fiR_length]; exact hpos)
    · rw [fi_more f g hl hx] at f8
      rw [show jB t.A.length p (j + 1) = j + 1 from by unfold jB; rw [if_neg hp], fi_over f g t.A (j + 1) (by omega)]
      rw [fi_over f g t.A j (by omega)] at f8
      exact f8.symm

end
end

section
variable {α β : Type}

/-- How great a table is. -/
structure Fit (m : Nat) (t : Tb α) : Prop where
  pos : 0 < t.A.length
  ct : Counts t
  n : t.n ≤ m
  a : t.A.length ≤ 2 * m + 4
  b : t.B.length ≤ 2 * m + 4

theorem Good.fit {h : List UInt8 → Nat} {m : Nat} {t : Tb α} (g : Good h m t) : Fit m t := ⟨g.kept.pos, g.cnt, g.n, g.a, g.b⟩

theorem Fit.bktA {m : Nat} {t : Tb α} (g : Fit m t) {i : Nat} {l : List (List UInt8 × α)} (hl : t.A[i]? = some l) : l.length ≤ m := by
  have h1 := all_length g.ct
  unfold allT at h1
  rw [List.length_append] at h1
  have := mem_len hl
  have := g.n
  omega

theorem Fit.bktB {m : Nat} {t : Tb α} (g : Fit m t) {i : Nat} {l : List (List UInt8 × α)} (hl : t.B[i]? = some l) : l.length ≤ m := by
  have h1 := all_length g.ct
  unfold allT at h1
  rw [List.length_append] at h1
  have := mem_len hl
  have := g.n
  omega

theorem cnt_key (g : List UInt8 → β) : ∀ R : List (List (List UInt8 × α)), cnt (keyR g R) = cnt R
  | [] => rfl
  | l :: R => by
    show (keyL g l).length + cnt (keyR g R) = l.length + cnt R
    rw [keyL_length, cnt_key g R]

theorem Fit.key {m : Nat} {t : Tb α} (h : Fit m t) (g : List UInt8 → β) : Fit m (keyT g t) :=
  ⟨by show 0 < (keyR g t.A).length; rw [keyR_length]; exact h.pos, by show cnt (keyR g t.A) + cnt (keyR g t.B) = t.n; rw [cnt_key, cnt_key]; exact h.ct, h.n, by show (keyR g t.A).length ≤ _; rw [keyR_length]; exact h.a, by show (keyR g t.B).length ≤ _; rw [keyR_length]; exact h.b⟩

theorem keys_keyR {p : List UInt8 → Prop} {R : List (List (List UInt8 × α))} (g : List UInt8 → β) (h : KeysR p R) : KeysR p (keyR g R) := by
  intro i l hl x hx
  unfold keyR at hl
  rw [List.getElem?_map] at hl
  cases hq : R[i]? with
  | none => rw [hq] at hl; cases hl
  | some m =>
    rw [hq] at hl
    injection hl with hl
    subst hl
    unfold keyL at hx
    obtain ⟨y, hy, rfl⟩ := List.mem_map.1 hx
    exact h i m hq y hy

theorem keys_keyT {p : List UInt8 → Prop} {t : Tb α} (g : List UInt8 → β) (h : KeysT p t) : KeysT p (keyT g t) := ⟨keys_keyR g h.1, keys_keyR g h.2⟩

end

attribute [local go_sem] Oper.semAt_some

theorem range_on2 {P : Program} {n : Nat} {g : Operand} {ps : Array Tmp} {assign body : Code} {Q : Exit → Act → World → Prop} {a : Act} {w : World} {gf : Nat} {lb : Array Value}
    (hg : a.eval g = .func (.func gf) #[] lb) (eg : ∀ args w, (callFunc gf args).run P w = .ok (.enter gf args) w)
    (h : ∀ (rec : LoopState → Loop) (W1 : World), (∀ st, (rec st).state = st ∧ (rec st).pending = none) → W1.heap.size = w.heap.size + 2 → Below w.heap.size w W1 →
      W1.heap[w.heap.size]? = some (.deferred (some [])) → W1.heap[w.heap.size + 1]? = some (.loop (rec .ready)) →
      (∀ (m : Nat) (args : Array Value) (W W' : World) (R : Ending → World → Prop) (a₁ : Act), args.size = ps.size → W.heap[w.heap.size + 1]? = some (.loop (rec .ready)) → W'.heap[w.heap.size + 1]? = some (.loop (rec .ready)) →
        (∀ K : Act → World → Prop, K a₁ W' → assign.wpIn (Fence.wide.inRound (w.heap.size + 1)) m P (Exit.then K (fun _ _ _ => False)) { tmps := (ps.zip args).foldl (fun t (p, v) => t.setIfInBounds p v) a.tmps, defers := [] } W) →
        body.wpIn (Fence.wide.inRound (w.heap.size + 1)) m P (fun e _ W3 => e = .normal ∧ W3.heap[w.heap.size + 1]? = some (.loop (rec .busy)) ∧ R (.returned (.bool true)) (W3.putObj (w.heap.size + 1) (.loop (rec .ready)))) a₁ (W'.putObj (w.heap.size + 1) (.loop (rec .busy))) →
        YieldAt Fence.wide m P (w.heap.size + 1) args W R) →
      CallsIn Fence.wide n P gf (#[.func (.yield (w.heap.size + 1)) #[] #[]] ++ lb) W1 fun e W2 =>
        (∃ v, e = .returned v ∧ W2.heap[w.heap.size + 1]? = some (.loop (rec .ready)) ∧ Q .normal { a with defers := { target := .collected w.heap.size, args := #[] } :: a.defers } (W2.putObj (w.heap.size + 1) (.loop (rec .exhausted))))) :
    (Code.rangeFunc g ps assign body).wp P Q a w := by
  refine (wpIn_wide (n := n + 1)).1 (wpIn_rangeFunc ?_)
  intro fn _
  obtain ⟨rec, hrec⟩ : ∃ rec : LoopState → Loop, rec = fun st => { state := st, pending := none, fn, tmps := a.tmps, params := ps, assign, body, defers := w.heap.size } := ⟨_, rfl⟩
  obtain ⟨W1, hW1⟩ : ∃ W1, (w.alloc (.deferred (some []))).alloc (.loop (rec .ready)) = W1 := ⟨_, rfl⟩
  have hL : W1.heap[w.heap.size + 1]? = some (.loop (rec .ready)) := by
    rw [← hW1]
    have := World.alloc_heap_new (w.alloc (.deferred (some []))) (.loop (rec .ready))
    rwa [World.size_alloc] at this
  have hD : W1.heap[w.heap.size]? = some (.deferred (some [])) := by
    rw [← hW1]
    exact (Below.heap_alloc _ _ _ (by simp)).trans (World.alloc_heap_new w _)
  have hb : Below w.heap.size w W1 := by
    rw [← hW1]
    exact ((Below.refl _ w).alloc (Nat.le_refl _) _).alloc (by simp) _
  have hz : W1.heap.size = w.heap.size + 2 := by rw [← hW1]; simp
  refine ⟨w.heap.size + 1, [{ target := .collected w.heap.size, args := #[] }], W1, { target := .fn (.func gf) lb, args := #[.func (.yield (w.heap.size + 1)) #[] #[]] }, W1, gf,
    #[.func (.yield (w.heap.size + 1)) #[] #[]] ++ lb, W1, ?_, ?_, fun _ _ => trivial, ?_, fun _ => by omega, ?_⟩
  · rw [← hW1, hrec]
    exact run_enterLoop_outer _ _ _ _ _
  · simp only [resolve, hg]
    simp [go_sem]
  · simp [invoke, go_sem, eg]
  · rw [Nat.add_sub_cancel]
    refine (h rec W1 (fun st => by rw [hrec]; exact ⟨rfl, rfl⟩) hz hb hD hL ?_).mono ?_
    · intro m args W W' R a₁ hs hl hl' hassign hbody
      have hy := run_yield (P := P) (args := args) hl (by rw [hrec]; exact hs)
      rw [hrec] at hy
      refine ⟨fn, _, assign, body, hy, roundIn_of_wpIn trivial (hassign _ ⟨_, run_beginRound hl' (by rw [hrec]), ?_⟩)⟩
      have e1 : ({ rec .ready with state := .busy } : Loop) = rec .busy := by rw [hrec]
      rw [e1]
      refine wpIn_mono hbody ?_
      rintro e a3 W3 ⟨rfl, hl3, hR⟩
      have he := run_endRound (P := P) none hl3
      have e2 : ({ rec .busy with state := .ready, pending := none } : Loop) = rec .ready := by rw [hrec]
      refine ⟨_, _, he, ?_⟩
      simp only [Option.isNone_none, if_true]
      rw [e2]
      exact hR
    · rintro e W2 ⟨v, rfl, hl2, hq⟩
      have he := run_endLoop (P := P) hl2 (by rw [hrec]; simp)
      have e3 : ({ rec .ready with state := .exhausted } : Loop) = rec .exhausted := by rw [hrec]
      rw [e3] at he
      exact ⟨none, _, by rw [hrec] at he ⊢; exact he, hq⟩

theorem cnt_take_le {γ : Type} (R : List (List γ)) (i : Nat) : cnt (R.take i) ≤ cnt R := by
  have q := congrArg (fun l => l.flatten.length) (List.take_append_drop i R)
  simp only [List.flatten_append, List.length_append] at q
  rw [cnt_flatten, cnt_flatten, cnt_flatten] at q
  omega

/-- Value by value, in All's order. -/
theorem vs_all {α β : Type} (g : List UInt8 → β) (t : Tb α) {p j : Nat} {l : List (List UInt8 × α)} {x : List UInt8 × α} (hl : (t.A ++ t.B)[p]? = some l) (hx : l[j]? = some x) : (vsL g (allT t))[cnt ((t.A ++ t.B).take p) + j]? = some (g x.1) := by
  have q := vs_at g [] hl hx
  rw [List.getElem?_drop, List.append_nil, List.flatten_append] at q
  exact q
end

end Go.Proofs.Ytcjoakbaldeaoaa
