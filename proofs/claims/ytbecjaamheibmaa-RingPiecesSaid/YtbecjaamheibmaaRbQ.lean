/-
  RingPieces: Pieces' iterator, called with what the statement tells of it: its walk. Conditions: the ring and the boxes lie in memory as typed.
-/
import Derived.Test.YtbecjaamheibmaaRbP
import Derived.Test.YtbecjaamheibmaaRbG
namespace Go.Proofs.Ytbecjaamheibmaa
open Go.RowKit

/-- How many pieces of t bytes L bytes are. -/
def Cnt (L t J : Nat) : Prop := (L = 0 ∧ J = 0) ∨ (1 ≤ J ∧ (J - 1) * t < L ∧ L ≤ J * t)

/-- How far j pieces lead. -/
def Far (L t k j : Nat) : Prop := k = j * t ∨ (k = L ∧ 1 ≤ j ∧ (j - 1) * t < L ∧ L ≤ j * t)
theorem Far.next {L t k j r n : Nat} (h : Far L t k j) (hk : k < L) (hr : L - k = r) (hn : min t r = n) : Far L t (k + n) (j + 1) := by
  rcases h with h | ⟨h, _⟩
  · have e : (j + 1) * t = j * t + t := by rw [Nat.add_mul, Nat.one_mul]
    by_cases q : t ≤ r
    · left
      rw [e]
      omega
    · right
      refine ⟨by omega, by omega, ?_, by rw [e]; omega⟩
      rw [Nat.add_sub_cancel]
      omega
  · omega
theorem Far.few {L t k j : Nat} (h : Far L t k j) (hk : k < L) (ht : 0 < t) (hL : L / 1000 ≤ t) : j + 1 < 5000 := by
  rcases h with h | ⟨h, _⟩
  · have h1 : j * t < 2000 * t := by omega
    have := Nat.lt_of_mul_lt_mul_right h1
    omega
  · omega
theorem Far.cnt {L t j : Nat} (h : Far L t L j) (ht : 0 < t) : Cnt L t j := by
  rcases h with h | ⟨_, h⟩
  · by_cases h0 : L = 0
    · left
      refine ⟨h0, ?_⟩
      rcases Nat.eq_zero_or_pos j with q | q
      · exact q
      · have := Nat.mul_pos q ht
        omega
    · right
      have hj : 1 ≤ j := by
        rcases Nat.eq_zero_or_pos j with q | q
        · rw [q, Nat.zero_mul] at h; omega
        · exact q
      obtain ⟨i, rfl⟩ : ∃ i, j = i + 1 := ⟨j - 1, by omega⟩
      have e : (i + 1) * t = i * t + t := by rw [Nat.add_mul, Nat.one_mul]
      refine ⟨hj, ?_, by omega⟩
      rw [Nat.add_sub_cancel]
      omega
  · exact Or.inr h

def lenOf : Value → Nat
  | .slice _ n _ => n
  | _ => 0

/-- What the iterator leaves. -/
def ItTo (w : World) (N : Nat) (o t : Int) (Y : Tx) (J : Nat) (w' : World) : Prop := ∃ B, PcAt w' B N o t Y J ∧ Below N w w'

/-- The boxes ahead of the iterator. -/
structure Bx8 (w : World) (N p : Nat) (o t : Int) : Prop where
  b0 : w.rowIs N 3 1 (fun _ => .int .i64 o)
  b1 : w.rowIs (N + 1) 3 1 (fun _ => .int .i64 t)
  b2 : w.rowIs (N + 2) 33 1 (fun _ => .slice none 0 0)
  b3 : w.rowIs (N + 3) 3 1 (fun _ => .int .i64 0)
  b4 : w.rowIs (N + 4) 4 1 (fun _ => .bool true)
  b5 : w.rowIs (N + 5) 24 1 (fun _ => .pointer (some ⟨p, 0, none⟩))
  b6 : w.rowIs (N + 6) 3 1 (fun _ => .int .i64 o)
  b7 : w.rowIs (N + 7) 3 1 (fun _ => .int .i64 t)
theorem Bx8.pc {w w' : World} {N p : Nat} {o t : Int} (h : Bx8 w N p o t) (hb : Below w.heap.size w w') : PcAt w' w'.heap.size N o t [] 0 ∧ w'.rowIs (N + 7) 3 1 (fun _ => .int .i64 t) := by
  have h7 := h.b7.lt
  have hs := hb.size
  exact ⟨⟨h.b0.of_block (hb.block _ h.b0.lt), h.b1.of_block (hb.block _ h.b1.lt), ⟨none, 0, h.b2.of_block (hb.block _ h.b2.lt), ⟨rfl, Or.inl ⟨rfl, rfl⟩⟩⟩, h.b3.of_block (hb.block _ h.b3.lt), h.b4.of_block (hb.block _ h.b4.lt), by omega, Nat.le_refl _⟩, h.b7.of_block (hb.block _ h7)⟩

theorem ByAt.capped {w : World} {A : Option Addr} {n c m : Nat} {l : Tx} (h : ByAt w A n c l) (hm : m ≤ n) : ByAt w A m m (l.take m) :=
  ⟨(h.first hm).1, Nat.le_refl _, by have := h.le; have := h.max; omega, fun e => by have := SlAt.bare h e; have := h.le; omega, (h.first hm).at_⟩

/-- The iterator's loop behind k bytes in j pieces: r bytes are left. -/
structure ItAt (w wr : World) (N B : Nat) (o t : Int) (Y : Tx) (k j : Nat) (A : Option Addr) (r c : Nat) : Prop where
  pc : PcAt wr B N o t (Y.take k) j
  by_ : ByAt wr A r c (Y.drop k)
  low : ∀ g o', 0 < r → A = some ⟨g, o', none⟩ → N + 8 ≤ g ∧ g < B
  b7 : wr.rowIs (N + 7) 3 1 (fun _ => .int .i64 t)
  bw : Below N w wr
theorem ItAt.next {w wr w' : World} {N B : Nat} {o t : Int} {Y : Tx} {k j : Nat} {A : Option Addr} {r c m : Nat} (h : ItAt w wr N B o t Y k j A r c) (hm : m ≤ r) (hp : PcTo wr B N o t (Y.take k ++ (Y.drop k).take m) (j + 1) w') (q : Nat) : ItAt w (w'.drewN q) N B o t Y (k + m) (j + 1) (if c = m then A else A.map (fun x => x.add m)) (r - m) (c - m) := by
  obtain ⟨h1, h2⟩ := hp
  have hl := h.pc.lt
  have hb := h.by_.only h2 (fun g o' h0 e q => by
    have := h.low g o' h0 e
    rcases q with q | q | q | q <;> omega)
  refine ⟨?_, ?_, fun g o' h0 e => ?_, ?_, ?_⟩
  · rw [List.take_add]
    exact h1.keep (below_drewN _ w' q)
  · have := hb.rest hm
    rw [List.drop_drop] at this
    exact this.below (below_drewN _ w' q)
  · split at e
    · exact h.low g o' (by omega) e
    · cases hA : A with
      | none => rw [hA] at e; cases e
      | some ad =>
        rw [hA, Option.map_some] at e
        injection e with e
        obtain ⟨b', o2, e', _⟩ := h.by_.cell (j := 0) (by omega)
        rw [hA] at e'
        injection e' with e'
        rw [e', Go.WideShapes.add_plain] at e
        injection e with e1 e2
        subst e1
        exact h.low b' o2 (by omega) (by rw [hA, e'])
  · exact h2.row h.b7 (fun q => by rcases q with q | q | q | q <;> omega)
  · have h3 : Below N wr w' := h2.below (by omega) (fun i hi q => by rcases q with q | q | q | q <;> omega)
    exact (h.bw.trans h3).trans (below_drewN _ w' q)

set_option maxRecDepth 100000 in
set_option maxHeartbeats 16000000 in
theorem iter_no {N p : Nat} {o t : Int} (w : World) (hB : Bx8 w N p o t) {l : Tx} {er : Int} (hf : Calls Try.prog 14 #[.pointer (some ⟨p, 0, none⟩), .int .i64 o] w (Told w l er)) (hno : er ≠ 0 ∨ t < 1) (y : Value) :
    Calls Try.prog 42 #[y, .pointer (some ⟨N + 5, 0, none⟩), .pointer (some ⟨N + 6, 0, none⟩), .pointer (some ⟨N + 7, 0, none⟩)] w fun e w' => e = .returned (.tuple #[]) ∧ ItTo w N o t [] 0 w' := by
  have HF := Lib.hid hf
  have HB := Lib.hid hB
  have c5 : w.cell? ⟨N + 5, 0, none⟩ = some (.pointer (some ⟨p, 0, none⟩)) := hB.b5.cell (i := 0) (by omega)
  have c6 : w.cell? ⟨N + 6, 0, none⟩ = some (.int .i64 o) := hB.b6.cell (i := 0) (by omega)
  have HN : Hid (∀ w', Below w.heap.size w w' → w'.cell? ⟨N + 7, 0, none⟩ = some (.int .i64 t) ∧ ItTo w N o t [] 0 w') := fun w' hb => ⟨(HB.out.pc hb).2.cell (i := 0) (by omega), _, (HB.out.pc hb).1, hb.mono (by have := HB.out.b0.lt; omega)⟩
  clear hf hB
  by_cases her : er = 0
  · subst her
    have ht : t < 1 := by omega
    clear hno
    go_enter Try.func42, Try.ntmps42
    go_wp2_with fail
    refine HF.out.mono ?_
    rintro e w2 ⟨A2, n2, c2, rfl, -, hb2, -⟩
    obtain ⟨c7, he⟩ := HN.out w2 hb2
    have HE := Lib.hid he
    clear hb2 he
    go_wp2
    exact bodyPost_ret (v := .tuple #[]) (by simp [results, Try.results42, go_sem]) rfl ⟨rfl, HE.out⟩
  · have herb : (er != 0) = true := by simpa using her
    clear hno
    go_enter Try.func42, Try.ntmps42
    go_wp2_with fail
    refine HF.out.mono ?_
    rintro e w2 ⟨A2, n2, c2, rfl, -, hb2, -⟩
    obtain ⟨c7, he⟩ := HN.out w2 hb2
    have HE := Lib.hid he
    clear hb2 he
    go_wp2
    exact bodyPost_ret (v := .tuple #[]) (by simp [results, Try.results42, go_sem]) rfl ⟨rfl, HE.out⟩

set_option maxRecDepth 100000 in
set_option maxHeartbeats 16000000 in
theorem iter_yes {N p : Nat} {o : Int} {t : Nat} (w : World) (hB : Bx8 w N p o t) {Y : Tx} (hf : Calls Try.prog 14 #[.pointer (some ⟨p, 0, none⟩), .int .i64 o] w (Told w Y 0)) (ht : 0 < t) (ht2 : t ≤ 9223372036854775807) (hY : Y.length ≤ 16777216) (hYt : Y.length / 1000 ≤ t) (o1 : 0 ≤ o) (o2 : o ≤ 1125899906842624) :
    Calls Try.prog 42 #[.func (.func 38) #[] #[.pointer (some ⟨N + 4, 0, none⟩), .pointer (some ⟨N, 0, none⟩), .pointer (some ⟨N + 2, 0, none⟩), .pointer (some ⟨N + 1, 0, none⟩), .pointer (some ⟨N + 3, 0, none⟩)], .pointer (some ⟨N + 5, 0, none⟩), .pointer (some ⟨N + 6, 0, none⟩), .pointer (some ⟨N + 7, 0, none⟩)] w fun e w' => e = .returned (.tuple #[]) ∧ ∃ J, Cnt Y.length t J ∧ ItTo w N o t Y J w' := by
  have HF := Lib.hid hf
  have HB := Lib.hid hB
  have c5 : w.cell? ⟨N + 5, 0, none⟩ = some (.pointer (some ⟨p, 0, none⟩)) := hB.b5.cell (i := 0) (by omega)
  have c6 : w.cell? ⟨N + 6, 0, none⟩ = some (.int .i64 o) := hB.b6.cell (i := 0) (by omega)
  have htI : ¬ (t : Int) < 1 := by omega
  have htb : decide ((t : Int) < 1) = false := decide_eq_false (by omega)
  have HN : Hid (∀ w', Below w.heap.size w w' → w'.cell? ⟨N + 6, 0, none⟩ = some (.int .i64 o) ∧ w'.cell? ⟨N + 7, 0, none⟩ = some (.int .i64 t)) := fun w' hb => ⟨(hb.cell (p := ⟨N + 6, 0, none⟩) HB.out.b6.lt).trans (HB.out.b6.cell (i := 0) (by omega)), (HB.out.pc hb).2.cell (i := 0) (by omega)⟩
  obtain ⟨Lg, hLg⟩ : ∃ L, Y.length = L := ⟨_, rfl⟩
  rw [hLg] at hY hYt ⊢
  have HL := Lib.hid hLg
  clear hf hB hLg
  go_enter Try.func42, Try.ntmps42
  go_wp2_with fail
  refine HF.out.mono ?_
  rintro e w2 ⟨A2, n2, c2, rfl, hy2, hb2, hg2⟩
  obtain ⟨d6, d7⟩ := HN.out w2 hb2
  have HY2 := Lib.hid hy2
  have HB2 := Lib.hid hb2
  have HG2 := Lib.hid hg2
  obtain ⟨hpc, h7⟩ := HB.out.pc hb2
  obtain rfl : n2 = Lg := by rw [← hy2.len]; exact HL.out
  obtain ⟨B, hBB⟩ : ∃ B, w2.heap.size = B := ⟨_, rfl⟩
  rw [hBB] at hpc
  have HPC := Lib.hid hpc
  have H7 := Lib.hid h7
  have HBB := Lib.hid hBB
  clear hy2 hb2 hg2 hpc h7 hBB c5 c6
  go_wp2_with fail
  go_loopw [5, 7] (fun rv av wr => ∃ (k j r : Nat) (A : Option Addr) (c : Nat) (a : Int), rv = .slice A r c ∧ av = .int .i64 a ∧ a = o + (k : Int) ∧ k + r = n2 ∧ Far n2 t k j ∧ ItAt w wr N B o t Y k j A r c) (fun rv _ _ => lenOf rv)
  case atStart => exact ⟨0, 0, n2, A2, c2, o, rfl, rfl, by omega, by omega, Or.inl (by rw [Nat.zero_mul]), ⟨HPC.out, HY2.out, fun g o' h0 e => by
    obtain ⟨b', o'', e', hlt, _⟩ := HY2.out.cell (j := 0) h0
    rw [e] at e'
    injection e' with e'
    injection e' with q1 q2
    have h1 := HG2.out g o' h0 e
    have h2 := HB.out.b7.lt
    have h3 := HBB.out
    exact ⟨by omega, by omega⟩, H7.out, HB2.out.mono (by have := HB.out.b0.lt; omega)⟩⟩
  case round =>
    obtain ⟨k, j, r, A, c, a, rfl, rfl, ha, hkr, hfar, hit⟩ := hrel
    have HIT := Lib.hid hit
    have HFAR := Lib.hid hfar
    by_cases hr : 0 < r
    · obtain ⟨m, hm⟩ : ∃ m, min t r = m := ⟨_, rfl⟩
      have hmin : Builtin.min_ #[3, 3] 3 #[.int .i64 (t : Int), .int .i64 (r : Int)] = pure (.int .i64 (m : Int)) := by rw [min_nat, hm]
      have hc7 : wr.cell? ⟨N + 7, 0, none⟩ = some (.int .i64 (t : Int)) := hit.b7.cell (i := 0) (by omega)
      have hrc := hit.by_.le
      have hcx := hit.by_.max
      have hm0 : 0 < m := by omega
      have hmr : m ≤ r := by omega
      have HYI := Lib.hid (yield_any wr hit.pc (hit.by_.capped hmr) (fun g o' h0 e => hit.low g o' (by omega) e) hm0 (by omega) (by rw [List.length_take]; omega) (hfar.few (by omega) ht hYt) a (by rw [List.length_take, ha, Nat.min_eq_left (by have := HL.out; omega)]))
      have HNX : Hid (∀ w' q, PcTo wr B N o t (Y.take k ++ (Y.drop k).take m) (j + 1) w' → ItAt w (w'.drewN q) N B o t Y (k + m) (j + 1) (if c = m then A else A.map (fun x => x.add m)) (r - m) (c - m)) := fun w' q hp => hit.next hmr hp q
      have HFN : Hid (Far n2 t (k + m) (j + 1)) := hfar.next (by omega) (by omega) hm
      obtain ⟨A3, hA3⟩ : ∃ A3, (if c = m then A else Option.map (fun x => x.add m) A) = A3 := ⟨_, rfl⟩
      obtain ⟨r3, hr3⟩ : ∃ r3, r - m = r3 := ⟨_, rfl⟩
      obtain ⟨c3, hc3⟩ : ∃ c3, c - m = c3 := ⟨_, rfl⟩
      rw [hA3, hr3, hc3] at HNX
      obtain ⟨a3, ha3⟩ : ∃ a3, a + (m : Int) = a3 := ⟨_, rfl⟩
      have hwa : IntKind.i64.wrap (a + (m : Int)) = a3 := by rw [IntWalk.i64_in _ (by omega)]; exact ha3
      have ha30 : (0 : Int) ≤ a3 := by omega
      have ha31 : a3 ≤ 2251799813685248 := by omega
      have hrI : (0 : Int) < (r : Int) := by omega
      have hmI0 : (0 : Int) ≤ (m : Int) := by omega
      have hmrI : (m : Int) ≤ (r : Int) := by omega
      have hmcI : (m : Int) ≤ (c : Int) := by omega
      have HA : Hid (a3 = o + ((k + m : Nat) : Int)) := by unfold Hid; omega
      have HRR : Hid (k + m + r3 = n2) := by unfold Hid; omega
      have HLT : Hid (r3 < r) := by unfold Hid; omega
      clear ha hkr hfar hit hm
      go_wp2_with fail
      refine HYI.out.mono ?_
      rintro e w4 ⟨rfl, hto⟩
      have HTO := Lib.hid hto
      clear hto
      go_wp2_with fail
      go_quiet (fail)
      go_wp2
      go_roundw
      case rel => exact ⟨k + m, j + 1, r3, A3, c3, a3, rfl, rfl, HA.out, HRR.out, HFN.out, HNX.out _ _ HTO.out⟩
      case measure => exact HLT.out
    · obtain rfl : r = 0 := by omega
      obtain rfl : k = n2 := by omega
      have HE : Hid (∃ J, Cnt k t J ∧ ItTo w N o t Y J wr) := ⟨j, hfar.cnt ht, B, by
        have := hit.pc
        rwa [List.take_of_length_le (by rw [HL.out]; exact Nat.le_refl _)] at this, hit.bw⟩
      clear hfar hit ha
      go_wp2
      go_end0
      exact ⟨rfl, HE.out⟩

end Go.Proofs.Ytbecjaamheibmaa
