/-
  The document's ring in memory (millpondref19.Ring): New, First, From, Accepts. Condition: the ring lies in memory as typed.
-/
import Derived.Test.YtbecjaamheibmaaRgI
import Derived.Deep.RegionLaw
import Derived.Deep.AppendLies
namespace Go.Proofs.Ytbecjaamheibmaa
open Go.RowKit

/-- The document's ring's cells. -/
def rfV (h : Hst) (s : Int) (B : Value) : Nat → Value := fun i =>
  if i = 0 then .int .u64 h.id else if i = 1 then .int .i64 h.off else if i = 2 then .int .u64 h.sec else if i = 3 then .int .i64 h.frk else if i = 4 then .int .i64 s else B

/-- The document's ring: its own blocks G. -/
structure RfOn (w : World) (base : Nat) (G : Nat → Prop) (q s : Nat) (h : Hst) (X : Tx) : Prop where
  own : ∀ k, G k → base ≤ k ∧ k < w.heap.size
  me : G q
  mem : ∃ A n c, w.rowIs q 46 6 (rfV h s (.slice A n c)) ∧ ByAt w A n c (lastN s X) ∧ ∀ g o, 0 < n → A = some ⟨g, o, none⟩ → G g ∧ g ≠ q
  s1 : 0 < s
  s2 : s ≤ 16777216
  xo : (X.length : Int) ≤ h.off
  o2 : h.off ≤ 1125899906842624
  i1 : 0 < h.id ∧ h.id ≤ 18446744073709551615
  i2 : 0 ≤ h.sec ∧ h.sec ≤ 18446744073709551615
  fk : 0 ≤ h.frk ∧ h.frk ≤ 1125899906842624

section
variable {w w' : World} {base q s : Nat} {G : Nat → Prop} {h : Hst} {X : Tx}

theorem RfOn.keep (H : RfOn w base G q s h X) (hs : w.heap.size ≤ w'.heap.size) (hk : ∀ k, G k → w'.heap[k]? = w.heap[k]?) : RfOn w' base G q s h X := by
  obtain ⟨A, n, c, hp, hb, hG⟩ := H.mem
  exact { H with own := fun k hF => ⟨(H.own k hF).1, Nat.lt_of_lt_of_le (H.own k hF).2 hs⟩, mem := ⟨A, n, c, hp.of_block (hk q H.me), hb.keep hs (fun g o h0 e => hk g (hG g o h0 e).1), hG⟩ }
theorem RfOn.below (H : RfOn w base G q s h X) (hb : Below w.heap.size w w') : RfOn w' base G q s h X := H.keep hb.size (fun k hk => hb.block k (H.own k hk).2)
theorem RfOn.only {p : Nat → Prop} (H : RfOn w base G q s h X) (hb : Only p w w') (hp : ∀ k, G k → ¬ p k) : RfOn w' base G q s h X := H.keep hb.size (fun k hk => hb.block k (H.own k hk).2 (hp k hk))
theorem RfOn.lt (H : RfOn w base G q s h X) : q < w.heap.size := (H.own q H.me).2
theorem RfOn.cells (H : RfOn w base G q s h X) : ∃ A n c, n = min X.length s ∧ ByAt w A n c (lastN s X) ∧ w.cell? ⟨q, 0, none⟩ = some (.int .u64 h.id) ∧ w.cell? ⟨q, 1, none⟩ = some (.int .i64 h.off) ∧ w.cell? ⟨q, 2, none⟩ = some (.int .u64 h.sec) ∧ w.cell? ⟨q, 3, none⟩ = some (.int .i64 h.frk) ∧ w.cell? ⟨q, 4, none⟩ = some (.int .i64 s) ∧ w.cell? ⟨q, 5, none⟩ = some (.slice A n c) ∧ ∀ i, w.frozen? ⟨q, i, none⟩ = false := by
  obtain ⟨A, n, c, hp, hb, hG⟩ := H.mem
  exact ⟨A, n, c, by rw [← hb.len, lastN_len], hb, hp.cell (i := 0) (by omega), hp.cell (i := 1) (by omega), hp.cell (i := 2) (by omega), hp.cell (i := 3) (by omega), hp.cell (i := 4) (by omega), hp.cell (i := 5) (by omega), hp.frozen⟩
theorem rfrst_bd (H : RfOn w base G q s h X) : 0 ≤ frstO s h X ∧ frstO s h X ≤ h.off ∧ 0 ≤ h.off := by
  have := H.xo
  unfold frstO
  omega

set_option maxRecDepth 100000 in
set_option maxHeartbeats 8000000 in
theorem rnew_yes (w : World) (s : Nat) (id : Int) (h1 : 0 < s) (h2 : s ≤ 16777216) (h3 : 0 < id) (h4 : id ≤ 18446744073709551615) :
    Calls Try.prog 10 #[.int .i64 s, .int .u64 id] w fun e w' => e = .returned (.tuple #[.pointer (some ⟨w.heap.size, 0, none⟩), .int .i64 0]) ∧ RfOn w' w.heap.size (· = w.heap.size) w.heap.size s ⟨id, 0, 0, 0⟩ [] ∧ Below w.heap.size w w' := by
  have hs1 : ¬ (s : Int) < 1 := by omega
  have hs1b : decide ((s : Int) < 1) = false := by simpa using hs1
  have hs2 : ¬ (16777216 : Int) < (s : Int) := by omega
  have hs2b : decide ((16777216 : Int) < (s : Int)) = false := by simpa using hs2
  have hid : ¬ id = 0 := by omega
  have hidb : (id == 0) = false := by simpa using hid
  have HS : Hid (0 < s ∧ s ≤ 16777216 ∧ 0 < id) := ⟨h1, h2, h3⟩
  clear h1 h2 h3
  go_enter Try.func10, Try.ntmps10
  go_wp2
  go_ret2
  have hr : (w.alloc (.cells #[.int .u64 id, .int .i64 0, .int .u64 0, .int .i64 0, .int .i64 (s : Int), .slice none 0 0] 46)).rowIs w.heap.size 46 6 (rfV ⟨id, 0, 0, 0⟩ s (.slice none 0 0)) := by
    refine World.rowIs_alloc w _ _ _ (fun i hi => ?_)
    have hi : i < 6 := hi
    rcases (by omega : i = 0 ∨ i = 1 ∨ i = 2 ∨ i = 3 ∨ i = 4 ∨ i = 5) with rfl | rfl | rfl | rfl | rfl | rfl <;> rfl
  refine ⟨rfl, ⟨fun k hk => ?_, rfl, ⟨none, 0, 0, hr, by rw [lastN_nil]; exact ByAt.nil _, fun g o h0 => absurd h0 (Nat.lt_irrefl 0)⟩, HS.out.1, HS.out.2.1, by simp, by simp, ⟨by have := HS.out.2.2; simp; omega, h4⟩, by simp, by simp⟩, (Below.refl _ _).alloc (Nat.le_refl _) _⟩
  subst hk
  exact ⟨Nat.le_refl _, by simp⟩

set_option maxRecDepth 100000 in
set_option maxHeartbeats 8000000 in
theorem rnew_no (w : World) (size id : Int) (hn : size < 1 ∨ 16777216 < size ∨ id = 0) :
    Calls Try.prog 10 #[.int .i64 size, .int .u64 id] w fun e w' => e = .returned (.tuple #[.pointer none, .int .i64 190]) ∧ w = w' := by
  by_cases h1 : size < 1
  · clear hn
    go_enter Try.func10, Try.ntmps10
    go_wp2
    go_ret2
    exact ⟨rfl, rfl⟩
  · have h1b : decide (size < 1) = false := by simpa using h1
    by_cases h2 : 16777216 < size
    · clear hn
      go_enter Try.func10, Try.ntmps10
      go_wp2
      go_ret2
      exact ⟨rfl, rfl⟩
    · have h2b : decide (16777216 < size) = false := by simpa using h2
      obtain rfl : id = 0 := by omega
      clear hn
      go_enter Try.func10, Try.ntmps10
      go_wp2
      go_ret2
      exact ⟨rfl, rfl⟩

set_option maxRecDepth 100000 in
set_option maxHeartbeats 8000000 in
theorem rfirst_any (w : World) (H : RfOn w base G q s h X) : Calls Try.prog 17 #[.pointer (some ⟨q, 0, none⟩)] w fun e w' => e = .returned (.int .i64 (frstO s h X)) ∧ ∃ n, w' = w.drewN n := by
  obtain ⟨A, n, c, hn, hb, c0, c1, c2, c3, c4, c5, hfz⟩ := H.cells
  have hbd := rfrst_bd H
  have hw : IntKind.i64.wrap (h.off - (n : Int)) = frstO s h X := by
    have := H.o2
    have := H.xo
    rw [IntWalk.i64_in _ (by omega), hn]
    rfl
  obtain ⟨f, hf⟩ : ∃ f, frstO s h X = f := ⟨_, rfl⟩
  rw [hf] at hw ⊢
  obtain ⟨off, ho⟩ : ∃ o, h.off = o := ⟨_, rfl⟩
  rw [ho] at c1 hw
  clear hf H hbd c0 c2 c3 c4 ho hn hb hfz
  go_enter Try.func17, Try.ntmps17
  go_wp2_with fail
  go_quiet (fail)
  go_wp2
  go_ret
  exact ⟨rfl, _, rfl⟩

theorem acc_doc (hid : 0 < h.id) (id o : Int) : (decide (id ≠ 0 ∧ (id = h.id ∨ id = h.sec ∧ o ≤ h.frk)) && hasB s h X o) = accB s h X id o := by
  unfold accB folB
  congr 1
  rw [decide_eq_decide]
  constructor
  · rintro ⟨h0, h1 | h1⟩
    · exact Or.inl h1
    · exact Or.inr ⟨h0, h1⟩
  · rintro (h1 | h1)
    · exact ⟨by omega, Or.inl h1⟩
    · exact ⟨h1.1, Or.inr h1.2⟩

/-- The document's test of an ID. -/
def knB (h : Hst) (id o : Int) : Bool := decide (id ≠ 0 ∧ (id = h.id ∨ id = h.sec ∧ o ≤ h.frk))
end

end Go.Proofs.Ytbecjaamheibmaa
