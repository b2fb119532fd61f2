/-
  The walks of the document's reader of replies: fail, byte, must, end. Conditions: the reader lies in memory with bytes that read as a list, at most 70000. The walks of the document's reader of replies: digits, count, integer. Conditions: as typed. The walks of the document's reader of replies: count, integer. Conditions: as typed. The walk of the document's reader of replies: text. Conditions: no fault as yet, a byte behind. The walks of the document's reader of replies: flat, bulk. Conditions: no fault as yet. The walk of the document's reader of replies: bulk. Conditions: no fault as yet, a byte behind.
-/
import Derived.Test.YtbldahkgilkclaaDoorRyD
import Derived.Deep.AppendLies
namespace Go.Proofs.YtbldahkgilkclaaDoor
open Go.RowKit

/-- The document's reader in block R: its bytes, its place, its fault. -/
structure RdAt (w : World) (R : Nat) (A : Option Addr) (b o cap : Nat) (bs : List UInt8) (i e : Nat) : Prop where
  c0 : w.cell? ⟨R, 0, none⟩ = some (.slice A bs.length cap)
  c1 : w.cell? ⟨R, 1, none⟩ = some (.int .i64 i)
  c2 : w.cell? ⟨R, 2, none⟩ = some (.int .i64 e)
  f1 : w.frozen? ⟨R, 1, none⟩ = false
  f2 : w.frozen? ⟨R, 2, none⟩ = false
  hA : 0 < bs.length → A = some ⟨b, o, none⟩
  at_ : BytesAt w b o bs
  ne : b ≠ R
  le : i ≤ bs.length
  big : bs.length ≤ 70000
  cl : bs.length ≤ cap
  cm : cap ≤ 9223372036854775807

/-- Of what was there only the reader has turned: its place and its fault. -/
structure Went (w : World) (R : Nat) (A : Option Addr) (b o cap : Nat) (bs : List UInt8) (s : Nat × Nat) (w' : World) : Prop where
  rd : RdAt w' R A b o cap bs s.1 s.2
  grown : w.grownBy w' (some R)

theorem RdAt.lt {w : World} {R : Nat} {A : Option Addr} {b o cap : Nat} {bs : List UInt8} {i e : Nat} (h : RdAt w R A b o cap bs i e) : R < w.heap.size :=
  World.block_lt_of_cell? w ⟨R, 0, none⟩ h.c0

theorem RdAt.went {w : World} {R : Nat} {A : Option Addr} {b o cap : Nat} {bs : List UInt8} {i e : Nat} (h : RdAt w R A b o cap bs i e) : Went w R A b o cap bs (i, e) w := ⟨h, World.grownBy.refl _ _⟩

theorem addr_off {R j k : Nat} (h : j ≠ k) : (⟨R, j, none⟩ : Addr) ≠ ⟨R, k, none⟩ := fun e => h (by injection e)
theorem addr_blk {R b j k : Nat} (h : b ≠ R) : (⟨R, j, none⟩ : Addr) ≠ ⟨b, k, none⟩ := fun e => h (by injection e with e _ _; exact e.symm)

theorem RdAt.fault {w : World} {R : Nat} {A : Option Addr} {b o cap : Nat} {bs : List UInt8} {i e : Nat} (h : RdAt w R A b o cap bs i e) (e' : Nat) : RdAt (w.setCell ⟨R, 2, none⟩ (.int .i64 e')) R A b o cap bs i e' :=
  ⟨(World.cell?_setCell_other _ _ _ _ (addr_off (by decide))).trans h.c0, (World.cell?_setCell_other _ _ _ _ (addr_off (by decide))).trans h.c1, World.cell?_setCell_same _ _ _ h.c2,
    (World.frozen?_setCell _ _ _ _).trans h.f1, (World.frozen?_setCell _ _ _ _).trans h.f2, h.hA,
    fun j hj => (World.cell?_setCell_other _ _ _ _ (addr_blk h.ne)).trans (h.at_ j hj), h.ne, h.le, h.big, h.cl, h.cm⟩

theorem RdAt.place {w : World} {R : Nat} {A : Option Addr} {b o cap : Nat} {bs : List UInt8} {i e : Nat} (h : RdAt w R A b o cap bs i e) (i' : Nat) (hi : i' ≤ bs.length) : RdAt (w.setCell ⟨R, 1, none⟩ (.int .i64 i')) R A b o cap bs i' e :=
  ⟨(World.cell?_setCell_other _ _ _ _ (addr_off (by decide))).trans h.c0, World.cell?_setCell_same _ _ _ h.c1, (World.cell?_setCell_other _ _ _ _ (addr_off (by decide))).trans h.c2,
    (World.frozen?_setCell _ _ _ _).trans h.f1, (World.frozen?_setCell _ _ _ _).trans h.f2, h.hA,
    fun j hj => (World.cell?_setCell_other _ _ _ _ (addr_blk h.ne)).trans (h.at_ j hj), h.ne, hi, h.big, h.cl, h.cm⟩

theorem grown_set (w : World) (R k : Nat) (v : Value) : w.grownBy (w.setCell ⟨R, k, none⟩ v) (some R) :=
  ⟨rfl, rfl, rfl, by simp [World.setCell], fun j _ hn => Below.heap_setCell _ _ _ _ (fun e => hn (by rw [e]))⟩

theorem RdAt.below {w w' : World} {R : Nat} {A : Option Addr} {b o cap : Nat} {bs : List UInt8} {i e : Nat} (h : RdAt w R A b o cap bs i e) (hb : Below w.heap.size w w') : RdAt w' R A b o cap bs i e := by
  have hl := h.lt
  refine ⟨(hb.cell hl).trans h.c0, (hb.cell hl).trans h.c1, (hb.cell hl).trans h.c2, (hb.frozen hl).trans h.f1, (hb.frozen hl).trans h.f2, h.hA, fun j hj => ?_, h.ne, h.le, h.big, h.cl, h.cm⟩
  exact (hb.cell (World.block_lt_of_cell? w ⟨b, o + j, none⟩ (h.at_ j hj))).trans (h.at_ j hj)

section
variable {w w' w2 : World} {R : Nat} {A : Option Addr} {b o cap : Nat} {bs : List UInt8} {s t : Nat × Nat}
theorem Went.trans (h : Went w R A b o cap bs s w') (k : Went w' R A b o cap bs t w2) : Went w R A b o cap bs t w2 := ⟨k.rd, h.grown.trans k.grown⟩
theorem Went.fault (h : Went w R A b o cap bs s w') (e' : Nat) : Went w R A b o cap bs (s.1, e') (w'.setCell ⟨R, 2, none⟩ (.int .i64 e')) := ⟨h.rd.fault e', h.grown.trans (grown_set _ _ _ _)⟩
theorem Went.place (h : Went w R A b o cap bs s w') (i' : Nat) (hi : i' ≤ bs.length) : Went w R A b o cap bs (i', s.2) (w'.setCell ⟨R, 1, none⟩ (.int .i64 i')) := ⟨h.rd.place i' hi, h.grown.trans (grown_set _ _ _ _)⟩
theorem Went.drew (h : Went w R A b o cap bs s w') : Went w R A b o cap bs s w'.drew :=
  ⟨h.rd.below (Below.refl _ _).drew, h.grown.trans ⟨(Below.refl w'.heap.size w').drew.os, (Below.refl w'.heap.size w').drew.tape, (Below.refl w'.heap.size w').drew.output, (Below.refl w'.heap.size w').drew.size, fun _ _ _ => rfl⟩⟩
end

/-! The plain answers: a place and a fault (0: none yet). -/
def failS (bs : List UInt8) (s : Nat × Nat) : Nat × Nat := if s.2 = 0 then (s.1, if bs.length ≤ s.1 then 31 else 30) else s
def byteS (bs : List UInt8) (s : Nat × Nat) : Nat × (Nat × Nat) :=
  if s.2 = 0 then (if bs.length ≤ s.1 then (0, (s.1, 31)) else ((bs.getD s.1 0).toNat, s)) else (0, s)
def mustS (bs : List UInt8) (c : Nat) (s : Nat × Nat) : Nat × Nat :=
  if s.2 = 0 then (if bs.length ≤ s.1 then (s.1, 31) else if (bs.getD s.1 0).toNat = c then (s.1 + 1, 0) else (s.1, 30)) else s
def endS (bs : List UInt8) (s : Nat × Nat) : Nat × Nat := mustS bs 10 (mustS bs 13 s)


/-- A number of digits without a zero ahead, up to one: its value, how many digits, whether the bytes ended. -/
def digL (most : Nat) : Nat → Bool → List UInt8 → Nat × Nat × Bool
  | n, _, [] => (n, 0, true)
  | n, first, c :: r =>
    if 48 ≤ c.toNat ∧ c.toNat ≤ 57 ∧ (first = true ∨ n ≠ 0) ∧ n * 10 + (c.toNat - 48) ≤ most then
      ((digL most (n * 10 + (c.toNat - 48)) false r).1, (digL most (n * 10 + (c.toNat - 48)) false r).2.1 + 1, (digL most (n * 10 + (c.toNat - 48)) false r).2.2)
    else (n, 0, false)

/-- What the document's digits tell, and where they stop, with which fault. -/
def digS (bs : List UInt8) (most : Nat) (s : Nat × Nat) : Nat × (Nat × Nat) :=
  if s.2 = 0 then
    ((digL most 0 true (bs.drop s.1)).1, (s.1 + (digL most 0 true (bs.drop s.1)).2.1, if (digL most 0 true (bs.drop s.1)).2.2 then 31 else if (digL most 0 true (bs.drop s.1)).2.1 = 0 then 30 else 0))
  else (0, s)

def placeAt (w : World) (R : Nat) : Nat := match w.cell? ⟨R, 1, none⟩ with | some (.int _ i) => i.toNat | _ => 0
theorem placeAt_eq {w : World} {R i : Nat} (h : w.cell? ⟨R, 1, none⟩ = some (.int .i64 i)) : placeAt w R = i := by
  unfold placeAt; rw [h]; exact Int.toNat_natCast i

theorem placeAt_num {w : World} {R : Nat} {z : Int} (h : w.cell? ⟨R, 1, none⟩ = some (.int .i64 z)) : placeAt w R = z.toNat := by
  unfold placeAt; rw [h]

theorem drop_more (bs : List UInt8) (i : Nat) (h : ¬ bs.length ≤ i) : bs.drop i = bs.getD i 0 :: bs.drop (i + 1) := by
  rw [List.drop_eq_getElem_cons (by omega), List.getD_eq_getElem?_getD, List.getElem?_eq_getElem (by omega)]; rfl

/-- So far k digits of value n. -/
def DigK (bs : List UInt8) (most i k n : Nat) : Prop :=
  digL most 0 true (bs.drop i) = ((digL most n (decide (k = 0)) (bs.drop (i + k))).1, (digL most n (decide (k = 0)) (bs.drop (i + k))).2.1 + k, (digL most n (decide (k = 0)) (bs.drop (i + k))).2.2)

theorem DigK.start (bs : List UInt8) (most i : Nat) : DigK bs most i 0 0 := by unfold DigK; simp
theorem DigK.short {bs : List UInt8} {most i k n : Nat} (h : DigK bs most i k n) (hl : bs.length ≤ i + k) : digS bs most (i, 0) = (n, (i + k, 31)) := by
  unfold DigK at h
  rw [List.drop_eq_nil_of_le hl] at h
  unfold digS
  simp only [digL, Nat.zero_add] at h
  simp [h]
theorem DigK.stop {bs : List UInt8} {most i k n : Nat} (h : DigK bs most i k n) (hl : ¬ bs.length ≤ i + k) (c : Nat) (hc : (bs.getD (i + k) 0).toNat = c)
    (hb : ¬ (48 ≤ c ∧ c ≤ 57 ∧ (k = 0 ∨ n ≠ 0) ∧ n * 10 + (c - 48) ≤ most)) : digS bs most (i, 0) = (n, (i + k, if k = 0 then 30 else 0)) := by
  unfold DigK at h
  rw [drop_more bs (i + k) hl] at h
  simp only [digL] at h
  rw [hc, if_neg (by simpa using hb)] at h
  simp only [Nat.zero_add] at h
  unfold digS
  simp [h]
theorem DigK.more {bs : List UInt8} {most i k n : Nat} (h : DigK bs most i k n) (hl : ¬ bs.length ≤ i + k) (c : Nat) (hc : (bs.getD (i + k) 0).toNat = c)
    (hb : 48 ≤ c ∧ c ≤ 57 ∧ (k = 0 ∨ n ≠ 0) ∧ n * 10 + (c - 48) ≤ most) : DigK bs most i (k + 1) (n * 10 + (c - 48)) := by
  unfold DigK at h ⊢
  rw [drop_more bs (i + k) hl] at h
  simp only [digL] at h
  rw [hc, if_pos (by simpa using hb)] at h
  rw [h, show decide (k + 1 = 0) = false from by simp, Nat.add_assoc i k 1]
  simp only [Nat.add_assoc, Nat.add_comm 1 k]

theorem digL_le (most : Nat) (l : List UInt8) : ∀ (n : Nat) (f : Bool), n ≤ most → (digL most n f l).1 ≤ most := by
  induction l with
  | nil => intro n f h; simpa [digL] using h
  | cons c r ih =>
    intro n f h
    simp only [digL]
    split
    · rename_i hb
      exact ih _ _ hb.2.2.2
    · exact h
theorem digS_le (bs : List UInt8) (most : Nat) (s : Nat × Nat) : (digS bs most s).1 ≤ most := by
  unfold digS
  split
  · exact digL_le most _ 0 true (Nat.zero_le _)
  · exact Nat.zero_le _

/-- What the document's count tells: below 0 for nil. -/
def countS (bs : List UInt8) (most : Nat) (s : Nat × Nat) : Int × (Nat × Nat) :=
  if (byteS bs s).1 = 45 then (-1, mustS bs 49 (s.1 + 1, 0)) else (((digS bs most (byteS bs s).2).1 : Int), (digS bs most (byteS bs s).2).2)

/-- What the document's integer tells. -/
def integerS (bs : List UInt8) (s : Nat × Nat) : Int × (Nat × Nat) :=
  if (byteS bs s).1 = 45 then
    if (byteS bs (s.1 + 1, 0)).1 = 48 then (0, failS bs (s.1 + 1, 0))
    else (-((digS bs 9223372036854775808 (byteS bs (s.1 + 1, 0)).2).1 : Int), (digS bs 9223372036854775808 (byteS bs (s.1 + 1, 0)).2).2)
  else (((digS bs 9223372036854775807 (byteS bs s).2).1 : Int), (digS bs 9223372036854775807 (byteS bs s).2).2)

/-- A byte that is one stands there. -/
theorem byteS_some {bs : List UInt8} {i e c : Nat} (hc : 0 < c) (h : (byteS bs (i, e)).1 = c) : e = 0 ∧ i < bs.length ∧ (byteS bs (i, e)).2 = (i, 0) := by
  unfold byteS at h ⊢
  by_cases he : e = 0
  · subst he
    by_cases hl : bs.length ≤ i
    · simp only [hl, if_true] at h; omega
    · simp [hl]; omega
  · simp only [he, if_false] at h; omega

theorem byteS_lt (bs : List UInt8) (s : Nat × Nat) : (byteS bs s).1 < 256 := by
  unfold byteS
  split
  · split
    · show 0 < 256; omega
    · exact UInt8.toNat_lt _
  · show 0 < 256; omega

/-- How many bytes a line's text has, and its fault: 0 where its end begins there. -/
def scanL : Nat → List UInt8 → Nat × Nat
  | k, [] => (k, 31)
  | k, c :: r => if c.toNat = 13 then (k, 0) else if c.toNat = 10 ∨ k = 65536 then (k, 30) else scanL (k + 1) r

/-- Where the document's text stops. -/
def textS (bs : List UInt8) (i : Nat) : Nat × Nat :=
  if (scanL 0 (bs.drop i)).2 = 0 then endS bs (i + (scanL 0 (bs.drop i)).1, 0) else (i + (scanL 0 (bs.drop i)).1, (scanL 0 (bs.drop i)).2)
def textB (bs : List UInt8) (i : Nat) : List UInt8 := (bs.drop i).take (scanL 0 (bs.drop i)).1

theorem scan_nil {bs : List UInt8} {i k : Nat} (h : scanL 0 (bs.drop i) = scanL k (bs.drop (i + k))) (hl : bs.length ≤ i + k) : scanL 0 (bs.drop i) = (k, 31) := by
  rw [h, List.drop_eq_nil_of_le hl]; rfl
theorem scan_cons {bs : List UInt8} {i k : Nat} (h : scanL 0 (bs.drop i) = scanL k (bs.drop (i + k))) (hl : ¬ bs.length ≤ i + k) (c : Nat) (hc : (bs.getD (i + k) 0).toNat = c) :
    scanL 0 (bs.drop i) = if c = 13 then (k, 0) else if c = 10 ∨ k = 65536 then (k, 30) else scanL (k + 1) (bs.drop (i + (k + 1))) := by
  rw [h, drop_more bs (i + k) hl]
  simp only [scanL]
  rw [hc, Nat.add_assoc i k 1]

theorem BytesAt.mid {w : World} {b o : Nat} {l : List UInt8} (h : BytesAt w b o l) (i k : Nat) : BytesAt w b (o + i) ((l.drop i).take k) := (h.cut i).take k

theorem conv_mid (w : World) (b o cap : Nat) (bs : List UInt8) (i J : Nat) (h : BytesAt w b o bs) (hi : i ≤ J) (hJ : J ≤ bs.length) (hc : bs.length ≤ cap) :
    (convert 26 9 (.slice (if cap = i then some ⟨b, o, none⟩ else some ⟨b, o + i, none⟩) (J - i) (cap - i))).run Tryd.prog w = .ok (.string ⟨((bs.drop i).take (J - i)).toArray⟩) w := by
  have hl : ((bs.drop i).take (J - i)).length = J - i := by rw [List.length_take, List.length_drop]; omega
  split
  · have e : (bs.drop i).take (J - i) = [] := by rw [show J - i = 0 from by omega, List.take_zero]
    have := conv_bytes w b o (cap - i) ((bs.drop i).take (J - i)) (by rw [e]; exact bytes_nil _ _ _)
    rwa [hl] at this
  · have := conv_bytes w b (o + i) (cap - i) ((bs.drop i).take (J - i)) (h.mid i (J - i))
    rwa [hl] at this


/-- A reply without a list, as a value. -/
def leafV (k : Int) (T : ByteArray) (n : Int) : Value := .agg #[.int .i64 k, .string T, .int .i64 n, .slice none 0 0]

/-- A block of a reply's zero. -/
def zeroRep : Obj := .cells #[.int .i64 0, .string ⟨#[]⟩, .int .i64 0, .slice none 0 0] 25

def flatS (bs : List UInt8) (i : Nat) : Nat × Nat := endS bs (mustS bs 49 (mustS bs 45 (i + 1, 0)))

theorem grown_below {w w1 w2 : World} {row : Option Nat} (hb : Below w.heap.size w w1) (hg : w1.grownBy w2 row) : w.grownBy w2 row :=
  ⟨hg.os.trans hb.os, hg.tape.trans hb.tape, hg.output.trans hb.output, Nat.le_trans hb.size hg.size, fun k hk hn => (hg.block k (Nat.lt_of_lt_of_le hk hb.size) hn).trans (hb.block k hk)⟩

theorem Went.after {w w1 w2 : World} {R : Nat} {A : Option Addr} {b o cap : Nat} {bs : List UInt8} {s : Nat × Nat} (hb : Below w.heap.size w w1) (h : Went w1 R A b o cap bs s w2) : Went w R A b o cap bs s w2 := ⟨h.rd, grown_below hb h.grown⟩

theorem RdAt.set_far {w : World} {R : Nat} {A : Option Addr} {b o cap : Nat} {bs : List UInt8} {i e : Nat} (h : RdAt w R A b o cap bs i e) (q : Addr) (v : Value) (hR : q.block ≠ R) (hb : 0 < bs.length → q.block ≠ b) : RdAt (w.setCell q v) R A b o cap bs i e := by
  have hne : ∀ k : Nat, q ≠ (⟨R, k, none⟩ : Addr) := fun k e => hR (by rw [e])
  refine ⟨(World.cell?_setCell_other _ _ _ _ (hne 0)).trans h.c0, (World.cell?_setCell_other _ _ _ _ (hne 1)).trans h.c1, (World.cell?_setCell_other _ _ _ _ (hne 2)).trans h.c2, (World.frozen?_setCell _ _ _ _).trans h.f1, (World.frozen?_setCell _ _ _ _).trans h.f2, h.hA, fun j hj => ?_, h.ne, h.le, h.big, h.cl, h.cm⟩
  exact (World.cell?_setCell_other _ _ _ _ (fun e => hb (by omega) (by rw [e]))).trans (h.at_ j hj)

theorem Went.far {w w1 : World} {R : Nat} {A : Option Addr} {b o cap : Nat} {bs : List UInt8} {s : Nat × Nat} (h : Went w R A b o cap bs s w1) (q : Addr) (v : Value) (hR : R < w.heap.size) (hb : b < w.heap.size) (hq : w.heap.size ≤ q.block) : Went w R A b o cap bs s (w1.setCell q v) :=
  ⟨h.rd.set_far q v (by omega) (fun _ => by omega), ⟨h.grown.os, h.grown.tape, h.grown.output, by rw [show (w1.setCell q v).heap.size = w1.heap.size from by simp [World.setCell]]; exact h.grown.size, fun k hk hn => (Below.heap_setCell _ _ _ _ (by omega)).trans (h.grown.block k hk hn)⟩⟩

theorem countS_range (bs : List UInt8) (most : Nat) (s : Nat × Nat) : -1 ≤ (countS bs most s).1 ∧ (countS bs most s).1 ≤ most := by
  unfold countS
  split
  · constructor
    · show (-1 : Int) ≤ -1; omega
    · show (-1 : Int) ≤ (most : Int); omega
  · have := digS_le bs most (byteS bs s).2
    constructor
    · show (-1 : Int) ≤ ((digS bs most (byteS bs s).2).1 : Int); omega
    · show ((digS bs most (byteS bs s).2).1 : Int) ≤ (most : Int); omega

/-- The document's bulk behind its mark: kind and text, and where it stops. -/
def dblkS (bs : List UInt8) (i : Nat) : (Nat × List UInt8) × (Nat × Nat) :=
  if (endS bs (countS bs 65536 (i, 0)).2).2 ≠ 0 ∨ (countS bs 65536 (i, 0)).1 < 0 then ((5, []), endS bs (countS bs 65536 (i, 0)).2)
  else if (bs.length : Int) - ((endS bs (countS bs 65536 (i, 0)).2).1 : Int) < (countS bs 65536 (i, 0)).1 then ((0, []), (bs.length, 31))
  else ((4, (bs.drop (endS bs (countS bs 65536 (i, 0)).2).1).take (countS bs 65536 (i, 0)).1.toNat), endS bs ((endS bs (countS bs 65536 (i, 0)).2).1 + (countS bs 65536 (i, 0)).1.toNat, 0))

theorem box_kept {w wa w3 : World} {R : Nat} (hnew : wa.heap[w.heap.size]? = some (.cells #[.int .i64 0, .string ⟨#[]⟩, .int .i64 0, .slice none 0 0] 25)) (hl : w.heap.size < wa.heap.size) (hg : wa.grownBy w3 (some R)) (hR : R < w.heap.size) :
    (w3.cell? ⟨w.heap.size, 0, none⟩ = some (.int .i64 0) ∧ w3.cell? ⟨w.heap.size, 1, none⟩ = some (.string ⟨#[]⟩) ∧ w3.cell? ⟨w.heap.size, 2, none⟩ = some (.int .i64 0) ∧ w3.cell? ⟨w.heap.size, 3, none⟩ = some (.slice none 0 0)) ∧
    (w3.frozen? ⟨w.heap.size, 0, none⟩ = false ∧ w3.frozen? ⟨w.heap.size, 1, none⟩ = false ∧ w3.frozen? ⟨w.heap.size, 2, none⟩ = false ∧ w3.frozen? ⟨w.heap.size, 3, none⟩ = false) := by
  have hne : ¬ (some w.heap.size = some R) := fun e => by injection e with e; omega
  exact ⟨⟨(hg.cell_far ⟨w.heap.size, 0, none⟩ hl hne).trans (cell_in hnew), (hg.cell_far ⟨w.heap.size, 1, none⟩ hl hne).trans (cell_in hnew), (hg.cell_far ⟨w.heap.size, 2, none⟩ hl hne).trans (cell_in hnew), (hg.cell_far ⟨w.heap.size, 3, none⟩ hl hne).trans (cell_in hnew)⟩,
    ⟨(hg.frozen_far ⟨w.heap.size, 0, none⟩ hl hne).trans (mark_in hnew), (hg.frozen_far ⟨w.heap.size, 1, none⟩ hl hne).trans (mark_in hnew), (hg.frozen_far ⟨w.heap.size, 2, none⟩ hl hne).trans (mark_in hnew), (hg.frozen_far ⟨w.heap.size, 3, none⟩ hl hne).trans (mark_in hnew)⟩⟩

theorem Went.box {w w1 : World} {R : Nat} {A : Option Addr} {b o cap : Nat} {bs : List UInt8} {s : Nat × Nat} (h : Went w R A b o cap bs s w1) (hR : R < w.heap.size) (hb : b < w.heap.size) (v0 v1 v2 v3 : Value) :
    Went w R A b o cap bs s ((((w1.setCell ⟨w.heap.size, 0, none⟩ v0).setCell ⟨w.heap.size, 1, none⟩ v1).setCell ⟨w.heap.size, 2, none⟩ v2).setCell ⟨w.heap.size, 3, none⟩ v3) :=
  (((h.far _ _ hR hb (by exact Nat.le_refl _)).far _ _ hR hb (by exact Nat.le_refl _)).far _ _ hR hb (by exact Nat.le_refl _)).far _ _ hR hb (by exact Nat.le_refl _)

theorem conv_seg (w : World) (b o cap : Nat) (bs : List UInt8) (i m : Nat) (h : BytesAt w b o bs) (hm : i + m ≤ bs.length) (hc : bs.length ≤ cap) :
    (convert 26 9 (.slice (if cap = i then some ⟨b, o, none⟩ else some ⟨b, o + i, none⟩) m (cap - i))).run Tryd.prog w = .ok (.string ⟨((bs.drop i).take m).toArray⟩) w := by
  have := conv_mid w b o cap bs i (i + m) h (by omega) hm hc
  rwa [show i + m - i = m from by omega] at this


end Go.Proofs.YtbldahkgilkclaaDoor
