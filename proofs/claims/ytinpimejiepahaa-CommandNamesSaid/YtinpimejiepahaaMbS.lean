/-
  Rows of texts, and rows of such rows, as a row hands them on. Conditions: as typed.
-/
import Derived.Test.YtinpimejiepahaaMbM
import Derived.Test.YtinpimejiepahaaBase
import Derived.SizedLaws
import Derived.DataReads
namespace Go.Proofs.Ytinpimejiepahaa
open Go.ChangeShapes Go.WideShapes Go.ChangeAt Go.RowKit

theorem u64_wf {n : Int} (h : (Lit.int .u64 n).wf = true) : 0 ≤ n ∧ n ≤ 18446744073709551615 := by
  simp only [Lit.wf, IntKind.min, IntKind.max, IntKind.signed, IntKind.bits, Bool.and_eq_true] at h
  simpa using h

theorem i64_wf {n : Int} (h : (Lit.int .i64 n).wf = true) : -9223372036854775808 ≤ n ∧ n ≤ 9223372036854775807 := by
  simp only [Lit.wf, IntKind.min, IntKind.max, IntKind.signed, IntKind.bits, Bool.and_eq_true] at h
  simpa using h

theorem choose_list {α : Type} {P : Nat → α → Prop} : ∀ (n : Nat), (∀ i, i < n → ∃ x, P i x) → ∃ l : List α, l.length = n ∧ ∀ (i : Nat) (x : α), l[i]? = some x → P i x
  | 0, _ => ⟨[], rfl, fun i x h => by simp at h⟩
  | n + 1, h => by
    obtain ⟨l, hl, hp⟩ := choose_list n (fun i hi => h i (by omega))
    obtain ⟨x, hx⟩ := h n (by omega)
    refine ⟨l ++ [x], by rw [List.length_append, hl]; rfl, fun i y hy => ?_⟩
    by_cases hi : i < n
    · rw [List.getElem?_append_left (by omega)] at hy
      exact hp i y hy
    · have hlt := (List.getElem?_eq_some_iff.1 hy).1
      rw [List.length_append, hl] at hlt
      obtain rfl : i = n := by simp at hlt; omega
      rw [List.getElem?_append_right (by omega), hl, Nat.sub_self] at hy
      simp only [List.getElem?_cons_zero, Option.some.injEq] at hy
      rw [← hy]
      exact hx

theorem weights_all_mem {H : Type} {P : Program} {e : TypeId} : ∀ {l : List (DataW H)} {i : Nat} {d : DataW H}, l[i]? = some d → ∀ n ∈ d.weights P e, n ∈ DataW.weightsAll P e l
  | [], i, d, h, _, _ => by simp at h
  | a :: l, 0, d, h, n, hn => by
    simp only [List.getElem?_cons_zero, Option.some.injEq] at h
    subst h
    simp only [DataW.weightsAll, List.mem_append]
    exact Or.inl hn
  | a :: l, i + 1, d, h, n, hn => by
    simp only [List.getElem?_cons_succ] at h
    simp only [DataW.weightsAll, List.mem_append]
    exact Or.inr (weights_all_mem h n hn)

/-- What an element of a slice weighs, the slice does. -/
theorem weights_elem {H : Type} {P : Program} {t e : TypeId} {elems spare : List (DataW H)} (hu : P.underlying t = some (.slice e)) (h : ((DataW.slice elems spare).weights P t).all (· ≤ reachBytes) = true) {i : Nat} {d : DataW H} (hd : elems[i]? = some d) : (d.weights P e).all (· ≤ reachBytes) = true := by
  rw [List.all_eq_true] at h ⊢
  intro n hn
  refine h n ?_
  rw [DataW.weights, hu]
  simp only [List.mem_cons, List.mem_append]
  exact Or.inr (Or.inl (weights_all_mem hd n hn))

theorem weights_arg {H : Type} {P : Program} {ts : List TypeId} {ds : List (DataW H)} (h : (DataW.weightsEach P ts ds).all (· ≤ reachBytes) = true) {j : Nat} {t : TypeId} {d : DataW H} (ht : ts[j]? = some t) (hd : ds[j]? = some d) : (d.weights P t).all (· ≤ reachBytes) = true := by
  rw [List.all_eq_true] at h ⊢
  exact fun n hn => h n (DataW.weights_mem_each ht hd n hn)

theorem cells_one {W : World} {b : Nat} {a : Addr} {u : Value} (h : W.cells? b a 1 = some [u]) : W.cell? a = some u := by
  have := (World.cells?_some h).2.2 0 (by decide)
  simpa [Addr.add] using this

theorem cells_str : Try.prog.cellsOf 9 = 1 := by kernel_rfl

/-- What lies side by side, one cell each. -/
theorem tx_of {W : World} {a : Addr} {len cap : Nat} {L : List Tx} (hL : L.length = len) (hlc : len ≤ cap) (hcm : cap ≤ 9223372036854775807) (hp : ∀ (i : Nat) (x : Tx), L[i]? = some x → W.cell? (a.add i) = some (.string ⟨x.toArray⟩) ∧ x.length ≤ 140737488355328) : TxAt W (some a) len cap L := by
  obtain ⟨g, o, spot⟩ := a
  refine ⟨hL, hlc, hcm, (fun e => by cases e), fun x hx => ?_, fun h0 => ?_⟩
  · obtain ⟨i, hi⟩ := List.mem_iff_getElem?.1 hx
    exact (hp i x hi).2
  · have hspot : spot = none := by
      obtain ⟨x, hx⟩ : ∃ x, L[0]? = some x := ⟨_, List.getElem?_eq_getElem (by rw [hL]; exact h0)⟩
      have h6 := World.cell?_spot (hp 0 x hx).1
      cases spot with
      | none => rfl
      | some s => simp [Addr.add] at h6
    subst hspot
    have hc : ∀ (j : Nat) (x : Tx), L[j]? = some x → W.cell? ⟨g, o + j, none⟩ = some (.string ⟨x.toArray⟩) := fun j x hx => by
      have := (hp j x hx).1
      rw [Go.WideShapes.add_plain] at this
      exact this
    refine ⟨g, o, rfl, ?_, hc⟩
    obtain ⟨x, hx⟩ : ∃ x, L[0]? = some x := ⟨_, List.getElem?_eq_getElem (by rw [hL]; exact h0)⟩
    exact World.block_lt_of_cell? W _ (hc 0 x hx)

set_option maxRecDepth 100000 in
theorem open_tx {H : Type} {enc : TypeId × Value → H} {W : World} {base : Nat} {sp : Nat → Bool} {held : Bool} {fuel : Nat} {cs : List Value} {y : DataW H × List MemPlace} (h : DataW.trod enc Try.prog W base sp held fuel 32 cs = some y) (hw : (y.1.weights Try.prog 32).all (· ≤ reachBytes) = true) :
    ∃ A len cap, ∃ L : List Tx, cs = [.slice A len cap] ∧ TxAt W A len cap L := by
  rcases DataW.trod_slice Try.underlying32 h with ⟨hc, _⟩ | ⟨a, len, cap, elems, rest, m, _, hc, hy, _, hlc, hcm, hel, hall, _, _⟩
  · exact ⟨none, 0, 0, [], hc, TxAt.nil W⟩
  · have hex : ∀ i, i < len → ∃ p : Tx, W.cell? (a.add i) = some (.string ⟨p.toArray⟩) ∧ p.length ≤ 140737488355328 := by
      intro i hi
      have hq := hall i hi
      rw [cells_str, Nat.mul_one] at hq
      obtain ⟨e, he⟩ : ∃ e, elems[i]? = some e := ⟨_, List.getElem?_eq_getElem (by rw [hel]; exact hi)⟩
      rw [he] at hq
      obtain ⟨cs', hcs', hd⟩ := Option.bind_eq_some_iff.1 hq
      obtain ⟨n, rfl, hn, _⟩ := DataW.trod_string Try.underlying9 hd
      rw [hy] at hw
      have hwe := weights_elem Try.underlying32 hw (i := i) (d := e.1) (by rw [List.getElem?_map, he]; rfl)
      rw [hn] at hwe
      have hwl : n.data.toList.length ≤ reachBytes := of_decide_eq_true (List.all_eq_true.1 hwe n.data.toList.length (by simp [DataW.weights]))
      have hrb : reachBytes = 140737488351232 := rfl
      refine ⟨n.data.toList, ?_, by omega⟩
      rw [cells_one hcs']
    obtain ⟨L, hL, hp⟩ := choose_list len hex
    unfold maxLen at hcm
    exact ⟨some a, len, cap, L, hc, tx_of hL hlc hcm hp⟩

theorem mk_text (X : ByteArray) : (⟨X.data.toList.toArray⟩ : ByteArray) = X := by
  apply ByteArray.ext
  simp

end Go.Proofs.Ytinpimejiepahaa
