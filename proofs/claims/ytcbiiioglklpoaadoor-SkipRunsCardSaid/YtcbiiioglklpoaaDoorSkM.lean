/-
  A chain of nodes in memory; the trail of a place as cells. No walk.
-/
import Derived.Test.YtcbiiioglklpoaaDoorSkN
import Derived.Deep.WholeRow
namespace Go.Proofs.YtcbiiioglklpoaaDoor
open Go.RowKit

/-- A way's two cells. -/
def WayIs (f : Nat → Value) (i : Nat) : Option (Nat × Nat) → Prop
  | none => f (3 + i * 2) = .pointer none ∧ ∃ s : Int, f (3 + i * 2 + 1) = .int .i64 s
  | some (d, b) => f (3 + i * 2) = .pointer (some ⟨b, 0, none⟩) ∧ f (3 + i * 2 + 1) = .int .i64 d

/-- The block of a place (0: the head). -/
def BlkAt (h : Nat) (ns : List Nd) (k b : Nat) : Prop := (h :: ns.map (·.1))[k]? = some b

def ptrV : Option Nat → Value
  | none => .pointer none
  | some b => .pointer (some ⟨b, 0, none⟩)

/-- The node ahead of the one at a place from 0 on: of the first one none. -/
def backOf (ns : List Nd) (k : Nat) : Option Nat := if k = 0 then none else (ns[k - 1]?).map (·.1)

/-- Nodes in memory: a head, its nodes in order, each block's cells. -/
structure ChOn (lv : Mb → Nat) (w : World) (h : Nat) (ns : List Nd) (S : Nat → Nat → Value) : Prop where
  one : (h :: ns.map (·.1)).Nodup
  row : ∀ b ∈ h :: ns.map (·.1), w.rowIs b 106 35 (S b)
  mem : ∀ (k : Nat) (x : Nd), ns[k]? = some x → S x.1 0 = .string ⟨x.2.1.toArray⟩ ∧ S x.1 1 = .int .i64 x.2.2
  back : ∀ (k : Nat) (x : Nd), ns[k]? = some x → S x.1 2 = ptrV (backOf ns k)
  way : ∀ k b i, BlkAt h ns k b → OnLv lv ns i k → i < 16 → WayIs (S b) i (fstAt lv i (ns.drop k))

section
variable {lv : Mb → Nat} {w w' : World} {h : Nat} {ns : List Nd} {S : Nat → Nat → Value}

theorem BlkAt.mem {k b : Nat} (hb : BlkAt h ns k b) : b ∈ h :: ns.map (·.1) := List.mem_of_getElem? hb
theorem BlkAt.zero : BlkAt h ns 0 h := rfl
theorem BlkAt.succ {k : Nat} {x : Nd} (hx : ns[k]? = some x) : BlkAt h ns (k + 1) x.1 := by
  unfold BlkAt
  rw [List.getElem?_cons_succ, List.getElem?_map, hx]
  rfl
theorem BlkAt.of_succ {k b : Nat} (hb : BlkAt h ns (k + 1) b) : ∃ x, ns[k]? = some x ∧ x.1 = b := by
  unfold BlkAt at hb
  rw [List.getElem?_cons_succ, List.getElem?_map] at hb
  cases hq : ns[k]? with
  | none => rw [hq] at hb; cases hb
  | some x => rw [hq] at hb; exact ⟨x, rfl, by simpa using hb⟩
theorem BlkAt.le {k b : Nat} (hb : BlkAt h ns k b) : k ≤ ns.length := by
  have := (List.getElem?_eq_some_iff.1 hb).1
  simp at this
  omega
theorem BlkAt.ex {k : Nat} (hk : k ≤ ns.length) : ∃ b, BlkAt h ns k b := ⟨_, List.getElem?_eq_getElem (by simp; omega)⟩
theorem BlkAt.inj {k k' b : Nat} (h1 : (h :: ns.map (·.1)).Nodup) (hb : BlkAt h ns k b) (hb' : BlkAt h ns k' b) : k = k' := by
  obtain ⟨a1, a2⟩ := List.getElem?_eq_some_iff.1 hb
  obtain ⟨b1, b2⟩ := List.getElem?_eq_some_iff.1 hb'
  have key : ∀ {i j : Nat} (hi : i < (h :: ns.map (·.1)).length) (hj : j < (h :: ns.map (·.1)).length), i < j → (h :: ns.map (·.1))[i] ≠ (h :: ns.map (·.1))[j] := fun hi hj hij => List.pairwise_iff_getElem.1 h1 _ _ hi hj hij
  rcases Nat.lt_or_ge k k' with q | q
  · exact absurd (a2.trans b2.symm) (key a1 b1 q)
  · rcases Nat.lt_or_ge k' k with q' | q'
    · exact absurd (b2.trans a2.symm) (key b1 a1 q')
    · omega
theorem BlkAt.fun {k b b' : Nat} (hb : BlkAt h ns k b) (hb' : BlkAt h ns k b') : b = b' := by
  unfold BlkAt at *
  rw [hb] at hb'
  exact Option.some.inj hb'

theorem ChOn.keep (c : ChOn lv w h ns S) (e : ∀ b ∈ h :: ns.map (·.1), w'.heap[b]? = w.heap[b]?) : ChOn lv w' h ns S :=
  ⟨c.one, fun b hb => (c.row b hb).of_block (e b hb), c.mem, c.back, c.way⟩
theorem ChOn.lt (c : ChOn lv w h ns S) {b : Nat} (hb : b ∈ h :: ns.map (·.1)) : b < w.heap.size := (c.row b hb).lt
theorem ChOn.below (c : ChOn lv w h ns S) (hb : Below w.heap.size w w') : ChOn lv w' h ns S := c.keep (fun b hm => hb.block b (c.lt hm))

/-- A way that leads on, cell by cell. -/
theorem ChOn.step (c : ChOn lv w h ns S) {k b i : Nat} (hb : BlkAt h ns k b) (ho : OnLv lv ns i k) (hi : i < 16) :
    (fstAt lv i (ns.drop k) = none ∧ w.cell? ⟨b, 3 + i * 2, none⟩ = some (.pointer none) ∧ ∃ s : Int, w.cell? ⟨b, 3 + i * 2 + 1, none⟩ = some (.int .i64 s)) ∨
    (∃ d x, fstAt lv i (ns.drop k) = some (d, x.1) ∧ 1 ≤ d ∧ ns[k + d - 1]? = some x ∧ i < lv x.2 ∧ w.cell? ⟨b, 3 + i * 2, none⟩ = some (.pointer (some ⟨x.1, 0, none⟩)) ∧ w.cell? ⟨b, 3 + i * 2 + 1, none⟩ = some (.int .i64 (d : Nat))) := by
  have hw := c.way k b i hb ho hi
  have c0 := (c.row b hb.mem).cell (i := 3 + i * 2) (by omega)
  have c1 := (c.row b hb.mem).cell (i := 3 + i * 2 + 1) (by omega)
  cases hq : fstAt lv i (ns.drop k) with
  | none =>
    rw [hq] at hw
    obtain ⟨w0, s, w1⟩ := hw
    exact Or.inl ⟨rfl, by rw [c0, w0], s, by rw [c1, w1]⟩
  | some r =>
    obtain ⟨d, q⟩ := r
    rw [hq] at hw
    obtain ⟨w0, w1⟩ := hw
    obtain ⟨q1, q2, ⟨m, q3, q4⟩, _⟩ := fstAt_some lv hq
    rw [List.getElem?_drop] at q3
    exact Or.inr ⟨d, (q, m), rfl, q1, by rw [← q3]; congr 1; omega, q4, by rw [c0, w0], by rw [c1, w1]⟩

end

/-- A level's part of a trail, as cells. -/
def TrF (lv : Mb → Nat) (h : Nat) (ns : List Nd) (p : Nat) (f : Nat → Value) (l : Nat) : Prop :=
  ∃ k b, BlkAt h ns k b ∧ IsTr lv ns l p k ∧ f (l * 2) = .pointer (some ⟨b, 0, none⟩) ∧ f (l * 2 + 1) = .int .i64 (k : Nat)

/-- Whole rows, by value. -/
def aggF (n : Nat) (f : Nat → Value) : Value := .agg ((List.range n).map f).toArray

theorem rowIs_loadFrom {P : Program} {w : World} {B n : Nat} {t : TypeId} {f : Nat → Value} (hr : w.rowIs B t n f) : (loadCellsFrom ⟨B, 0, none⟩ 0 n #[]).run P w = .ok ((List.range n).map f).toArray w := by
  have := run_loadCells (P := P) w ⟨B, 0, none⟩ n f (fun j hj => by
    have hadd : (⟨B, 0, none⟩ : Addr).add j = ⟨B, j, none⟩ := by unfold Addr.add; split <;> simp_all
    rw [hadd]
    exact hr.cell hj)
  simpa [loadCells] using this

theorem rowIs_storeCells {P : Program} {w : World} {B n : Nat} {t : TypeId} {f : Nat → Value} (hr : w.rowIs B t n f) (g : Nat → Value) (h1 : ∀ i, i < n → (g i).oneCell' = true) :
    ∃ w', (storeCells ⟨B, 0, none⟩ ((List.range n).map g) 0).run P w = .ok () w' ∧ w'.rowIs B t n g ∧ Only (· = B) w w' := by
  obtain ⟨c, hb, hs, _⟩ := hr
  have hq := run_storeCells_from (P := P) B t ((List.range n).map g) 0 c w hb (by simp [hs]) (fun v hv => by
    obtain ⟨i, hi, rfl⟩ := List.mem_map.1 hv
    exact h1 i (List.mem_range.1 hi))
  refine ⟨_, hq, ⟨((List.range n).map g).toArray, by simpa using setRow_heap w B c _ t (0, 0) hb, by simp, fun i hi => by simp [hi]⟩, ⟨rfl, rfl, rfl, by simp, fun k _ hk => setRow_other w B k _ hk⟩⟩

theorem info_trail : (Tryd.prog.info? 125).map (·.size) = some 32 := by kernel_rfl
theorem under_trail : (match Tryd.prog.underlying 125 with | some (.array _ _) => true | _ => false) = true := by kernel_rfl
theorem under_trail' : ∃ d, Tryd.prog.underlying 125 = some d ∧ (match d with | .struct _ | .array _ _ => true | _ => false) = true := by
  have h := under_trail
  cases hq : Tryd.prog.underlying 125 with
  | none => rw [hq] at h; cases h
  | some d =>
    rw [hq] at h
    cases d <;> first | exact ⟨_, rfl, rfl⟩ | cases h

theorem load_trail {ops : Array Oper} {rest : List Oper} {o : Oper} {a : Act} {w : World} {Q : Exit → Act → World → Prop} (hgd : o.guard = none) (x : Operand) (ho : o.op = .load 125 x)
    (g : Nat) (hx : a.eval x = .pointer (some ⟨g, 0, none⟩)) (f : Nat → Value) (hr : w.rowIs g 125 32 f)
    (h : wpList Tryd.prog ops Q rest (a.put o.dst (aggF 32 f)) w) : wpList Tryd.prog ops Q (o :: rest) a w := by
  obtain ⟨c, hb, hs, hc⟩ := hr
  obtain ⟨d, hu, hd⟩ := under_trail'
  have e : c = ((List.range 32).map f).toArray := Array.ext_getElem? fun i => by
    by_cases hi : i < 32
    · rw [hc i hi]; simp [hi]
    · rw [Array.getElem?_eq_none (by omega)]; simp [hi]
  subst e
  exact wpList_load_row hgd _ x ho g hx _ _ _ d hb hu (by cases d <;> first | rfl | cases hd) (by rw [info_trail]; simp) h

theorem store_trail {ops : Array Oper} {rest : List Oper} {o : Oper} {a : Act} {w : World} {Q : Exit → Act → World → Prop} (hgd : o.guard = none) (x y : Operand) (ho : o.op = .store 125 x y)
    (g : Nat) (hx : a.eval x = .pointer (some ⟨g, 0, none⟩)) (f f' : Nat → Value) (hr : w.rowIs g 125 32 f) (hy : a.eval y = aggF 32 f') (h1 : ∀ i, i < 32 → (f' i).oneCell' = true)
    (h : ∀ w', w'.rowIs g 125 32 f' → Only (· = g) w w' → wpList Tryd.prog ops Q rest (a.put o.dst undef) w') : wpList Tryd.prog ops Q (o :: rest) a w := by
  obtain ⟨c, hb, hs, hc⟩ := hr
  refine wpList_store_row hgd _ x y ho g _ hx hy _ _ hb (by rw [info_trail]; simp) (by simp [hs]) (by
    rw [Array.all_eq_true_iff_forall_mem]
    intro v hv
    simp at hv
    obtain ⟨i, hi, rfl⟩ := hv
    exact h1 i hi) (h _ ⟨((List.range 32).map f').toArray, setRow_heap w g c _ _ (0, 0) hb, by simp, fun i hi => by simp [hi]⟩ ⟨rfl, rfl, rfl, by simp, fun k _ hk => setRow_other w g k _ hk⟩)

theorem results_trail {fn : Func} {p : Tmp} (h : fn.results = #[.cell p 125]) (tmps : Array Value) (w : World) (g : Nat) (hp : tmps.getD p undef = .pointer (some ⟨g, 0, none⟩)) (f : Nat → Value) (hr : w.rowIs g 125 32 f) :
    (results fn tmps).run Tryd.prog w = .ok (aggF 32 f) w := by
  obtain ⟨c, hb, hs, hc⟩ := hr
  obtain ⟨d, hu, hd⟩ := under_trail'
  have e : c = ((List.range 32).map f).toArray := Array.ext_getElem? fun i => by
    by_cases hi : i < 32
    · rw [hc i hi]; simp [hi]
    · rw [Array.getElem?_eq_none (by omega)]; simp [hi]
  subst e
  exact results_cell_row h tmps w g _ _ _ d hp hb hu (by cases d <;> first | rfl | cases hd) (by rw [info_trail]; simp)

end Go.Proofs.YtcbiiioglklpoaaDoor
