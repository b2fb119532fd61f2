/-
  The walks of the document's reader of replies: fail, byte, must, end. Conditions: the reader lies in memory with bytes that read as a list, at most 70000.
-/
import Derived.Test.YtppbcdollomebaaDoorRyD
namespace Go.Proofs.YtppbcdollomebaaDoor
open Go.RowKit

/-- The document's reader in block R: its bytes, its place, its fault. -/
structure RdAt (w : World) (R : Nat) (A : Option Addr) (b o cap : Nat) (bs : List UInt8) (i e : Nat) : Prop where
  c0 : w.cell? ⟨R, 0, none⟩ = some (.slice A bs.length cap)
  c1 : w.cell? ⟨R, 1, none⟩ = some (.int .i64 i)
  c2 : w.cell? ⟨R, 2, none⟩ = some (.int .i64 e)
  f1 : w.frozen? ⟨R, 1, none⟩ = false
  f2 : w.frozen? ⟨R, 2, none⟩ = false
  hA : 0 < bs.length → A = some ⟨b, o, none⟩
  at_ : BytesAt w b o bs
  ne : b ≠ R
  le : i ≤ bs.length
  big : bs.length ≤ 70000
  cl : bs.length ≤ cap
  cm : cap ≤ 9223372036854775807

/-- Of what was there only the reader has turned: its place and its fault. -/
structure Went (w : World) (R : Nat) (A : Option Addr) (b o cap : Nat) (bs : List UInt8) (s : Nat × Nat) (w' : World) : Prop where
  rd : RdAt w' R A b o cap bs s.1 s.2
  grown : w.grownBy w' (some R)

theorem RdAt.lt {w : World} {R : Nat} {A : Option Addr} {b o cap : Nat} {bs : List UInt8} {i e : Nat} (h : RdAt w R A b o cap bs i e) : R < w.heap.size :=
  World.block_lt_of_cell? w ⟨R, 0, none⟩ h.c0

theorem RdAt.went {w : World} {R : Nat} {A : Option Addr} {b o cap : Nat} {bs : List UInt8} {i e : Nat} (h : RdAt w R A b o cap bs i e) : Went w R A b o cap bs (i, e) w := ⟨h, World.grownBy.refl _ _⟩

theorem addr_off {R j k : Nat} (h : j ≠ k) : (⟨R, j, none⟩ : Addr) ≠ ⟨R, k, none⟩ := fun e => h (by injection e)
theorem addr_blk {R b j k : Nat} (h : b ≠ R) : (⟨R, j, none⟩ : Addr) ≠ ⟨b, k, none⟩ := fun e => h (by injection e with e _ _; exact e.symm)

theorem RdAt.fault {w : World} {R : Nat} {A : Option Addr} {b o cap : Nat} {bs : List UInt8} {i e : Nat} (h : RdAt w R A b o cap bs i e) (e' : Nat) : RdAt (w.setCell ⟨R, 2, none⟩ (.int .i64 e')) R A b o cap bs i e' :=
  ⟨(World.cell?_setCell_other _ _ _ _ (addr_off (by decide))).trans h.c0, (World.cell?_setCell_other _ _ _ _ (addr_off (by decide))).trans h.c1, World.cell?_setCell_same _ _ _ h.c2,
    (World.frozen?_setCell _ _ _ _).trans h.f1, (World.frozen?_setCell _ _ _ _).trans h.f2, h.hA,
    fun j hj => (World.cell?_setCell_other _ _ _ _ (addr_blk h.ne)).trans (h.at_ j hj), h.ne, h.le, h.big, h.cl, h.cm⟩

theorem RdAt.place {w : World} {R : Nat} {A : Option Addr} {b o cap : Nat} {bs : List UInt8} {i e : Nat} (h : RdAt w R A b o cap bs i e) (i' : Nat) (hi : i' ≤ bs.length) : RdAt (w.setCell ⟨R, 1, none⟩ (.int .i64 i')) R A b o cap bs i' e :=
  ⟨(World.cell?_setCell_other _ _ _ _ (addr_off (by decide))).trans h.c0, World.cell?_setCell_same _ _ _ h.c1, (World.cell?_setCell_other _ _ _ _ (addr_off (by decide))).trans h.c2,
    (World.frozen?_setCell _ _ _ _).trans h.f1, (World.frozen?_setCell _ _ _ _).trans h.f2, h.hA,
    fun j hj => (World.cell?_setCell_other _ _ _ _ (addr_blk h.ne)).trans (h.at_ j hj), h.ne, hi, h.big, h.cl, h.cm⟩

theorem grown_set (w : World) (R k : Nat) (v : Value) : w.grownBy (w.setCell ⟨R, k, none⟩ v) (some R) :=
  ⟨rfl, rfl, rfl, by simp [World.setCell], fun j _ hn => Below.heap_setCell _ _ _ _ (fun e => hn (by rw [e]))⟩

theorem RdAt.below {w w' : World} {R : Nat} {A : Option Addr} {b o cap : Nat} {bs : List UInt8} {i e : Nat} (h : RdAt w R A b o cap bs i e) (hb : Below w.heap.size w w') : RdAt w' R A b o cap bs i e := by
  have hl := h.lt
  refine ⟨(hb.cell hl).trans h.c0, (hb.cell hl).trans h.c1, (hb.cell hl).trans h.c2, (hb.frozen hl).trans h.f1, (hb.frozen hl).trans h.f2, h.hA, fun j hj => ?_, h.ne, h.le, h.big, h.cl, h.cm⟩
  exact (hb.cell (World.block_lt_of_cell? w ⟨b, o + j, none⟩ (h.at_ j hj))).trans (h.at_ j hj)

section
variable {w w' w2 : World} {R : Nat} {A : Option Addr} {b o cap : Nat} {bs : List UInt8} {s t : Nat × Nat}
theorem Went.trans (h : Went w R A b o cap bs s w') (k : Went w' R A b o cap bs t w2) : Went w R A b o cap bs t w2 := ⟨k.rd, h.grown.trans k.grown⟩
theorem Went.fault (h : Went w R A b o cap bs s w') (e' : Nat) : Went w R A b o cap bs (s.1, e') (w'.setCell ⟨R, 2, none⟩ (.int .i64 e')) := ⟨h.rd.fault e', h.grown.trans (grown_set _ _ _ _)⟩
theorem Went.place (h : Went w R A b o cap bs s w') (i' : Nat) (hi : i' ≤ bs.length) : Went w R A b o cap bs (i', s.2) (w'.setCell ⟨R, 1, none⟩ (.int .i64 i')) := ⟨h.rd.place i' hi, h.grown.trans (grown_set _ _ _ _)⟩
theorem Went.drew (h : Went w R A b o cap bs s w') : Went w R A b o cap bs s w'.drew :=
  ⟨h.rd.below (Below.refl _ _).drew, h.grown.trans ⟨(Below.refl w'.heap.size w').drew.os, (Below.refl w'.heap.size w').drew.tape, (Below.refl w'.heap.size w').drew.output, (Below.refl w'.heap.size w').drew.size, fun _ _ _ => rfl⟩⟩
end

/-! The plain answers: a place and a fault (0: none yet). -/
def failS (bs : List UInt8) (s : Nat × Nat) : Nat × Nat := if s.2 = 0 then (s.1, if bs.length ≤ s.1 then 31 else 30) else s
def byteS (bs : List UInt8) (s : Nat × Nat) : Nat × (Nat × Nat) :=
  if s.2 = 0 then (if bs.length ≤ s.1 then (0, (s.1, 31)) else ((bs.getD s.1 0).toNat, s)) else (0, s)
def mustS (bs : List UInt8) (c : Nat) (s : Nat × Nat) : Nat × Nat :=
  if s.2 = 0 then (if bs.length ≤ s.1 then (s.1, 31) else if (bs.getD s.1 0).toNat = c then (s.1 + 1, 0) else (s.1, 30)) else s
def endS (bs : List UInt8) (s : Nat × Nat) : Nat × Nat := mustS bs 10 (mustS bs 13 s)

set_option maxRecDepth 100000 in
set_option maxHeartbeats 2000000 in
theorem dfail_ok (R : Nat) (A : Option Addr) (b o cap : Nat) (bs : List UInt8) (i e : Nat) (w : World) (h : RdAt w R A b o cap bs i e) :
    Calls Tryd.prog 46 #[.pointer (some ⟨R, 0, none⟩)] w fun en w' => en = .returned (.tuple #[]) ∧ Went w R A b o cap bs (failS bs (i, e)) w' := by
  have HW := Lib.hid h.went
  have hle := h.le
  have hbig := h.big
  have c0 := h.c0
  have c1 := h.c1
  have c2 := h.c2
  have f1 := h.f1
  have f2 := h.f2
  clear h
  by_cases he : e = 0
  · subst he
    by_cases hl : bs.length ≤ i
    · have HS : Hid (failS bs (i, 0) = (i, 31)) := by unfold Hid failS; simp [hl]
      obtain rfl : i = bs.length := by omega
      go_enter Tryd.func46, Tryd.ntmps46
      go_wp2
      go_region
      all_goals
        go_wp2
        go_end0
        rw [HS.out]
        first
          | exact ⟨rfl, (HW.out.fault 30).fault 31⟩
          | exact ⟨rfl, (HW.out.fault 30).drew.fault 31⟩
    · have HS : Hid (failS bs (i, 0) = (i, 30)) := by unfold Hid failS; simp [hl]
      go_enter Tryd.func46, Tryd.ntmps46
      go_wp2
      go_region
      all_goals
        go_wp2
        go_end0
        rw [HS.out]
        first
          | exact ⟨rfl, HW.out.fault 30⟩
          | exact ⟨rfl, (HW.out.fault 30).drew⟩
  · have HS : Hid (failS bs (i, e) = (i, e)) := by unfold Hid failS; simp [he]
    have h0 : ((e : Int) == 0) = false := by simp; omega
    go_enter Tryd.func46, Tryd.ntmps46
    go_wp2
    go_end0
    rw [HS.out]
    exact ⟨rfl, HW.out⟩

set_option maxRecDepth 100000 in
set_option maxHeartbeats 2000000 in
theorem dbyte_ok (R : Nat) (A : Option Addr) (b o cap : Nat) (bs : List UInt8) (i e : Nat) (w : World) (h : RdAt w R A b o cap bs i e) :
    Calls Tryd.prog 39 #[.pointer (some ⟨R, 0, none⟩)] w fun en w' => en = .returned (.int .u8 (byteS bs (i, e)).1) ∧ Went w R A b o cap bs (byteS bs (i, e)).2 w' := by
  have HW := Lib.hid h.went
  have H := Lib.hid h
  have hle := h.le
  have hbig := h.big
  have c0 := h.c0
  have c1 := h.c1
  have c2 := h.c2
  have hA := h.hA
  have hat := h.at_
  clear h
  by_cases he : e = 0
  · subst he
    by_cases hl : bs.length ≤ i
    · have HS : Hid (byteS bs (i, 0) = (0, (i, 31))) := by unfold Hid byteS; simp [hl]
      have HF : Hid (failS bs (i, 0) = (i, 31)) := by unfold Hid failS; simp [hl]
      obtain rfl : i = bs.length := by omega
      go_enter Tryd.func39, Tryd.ntmps39
      go_wp2
      go_region
      all_goals
        go_wp2_with fail
        first
          | (refine (dfail_ok R A b o cap bs bs.length 0 _ H.out).mono ?_; rintro en w2 ⟨rfl, hw⟩; have HW2 := Lib.hid (HW.out.trans hw))
          | (refine (dfail_ok R A b o cap bs bs.length 0 _ HW.out.drew.rd).mono ?_; rintro en w2 ⟨rfl, hw⟩; have HW2 := Lib.hid (HW.out.drew.trans hw))
        rw [HF.out] at hw HW2
        have c2' := hw.rd.c2
        clear hw
        go_wp2
        go_ret
        rw [HS.out]
        exact ⟨rfl, HW2.out⟩
    · have HS : Hid (byteS bs (i, 0) = ((bs.getD i 0).toNat, (i, 0))) := by unfold Hid byteS; simp [hl]
      obtain rfl := hA (by omega)
      have hcell := hat i (by omega)
      go_enter Tryd.func39, Tryd.ntmps39
      go_wp2
      go_region
      all_goals
        go_wp2
        go_region
        all_goals
          go_wp2
          go_ret
          rw [HS.out]
          first
            | exact ⟨rfl, HW.out⟩
            | exact ⟨rfl, HW.out.drew⟩
            | exact ⟨rfl, HW.out.drew.drew⟩
  · have HS : Hid (byteS bs (i, e) = (0, (i, e))) := by unfold Hid byteS; simp [he]
    have h0 : ((e : Int) == 0) = false := by simp; omega
    go_enter Tryd.func39, Tryd.ntmps39
    go_wp2
    go_region
    all_goals
      go_wp2
      go_ret
      rw [HS.out]
      first
        | exact ⟨rfl, HW.out⟩
        | exact ⟨rfl, HW.out.drew⟩

set_option maxRecDepth 100000 in
set_option maxHeartbeats 2000000 in
theorem dmust_ok (R : Nat) (A : Option Addr) (b o cap : Nat) (bs : List UInt8) (i e c : Nat) (hc0 : 0 < c) (hc : c < 256) (w : World) (h : RdAt w R A b o cap bs i e) :
    Calls Tryd.prog 57 #[.pointer (some ⟨R, 0, none⟩), .int .u8 c] w fun en w' => en = .returned (.tuple #[]) ∧ Went w R A b o cap bs (mustS bs c (i, e)) w' := by
  have HB := Lib.hid (dbyte_ok R A b o cap bs i e w h)
  have hle := h.le
  have hbig := h.big
  clear h
  by_cases he : e = 0
  · subst he
    by_cases hl : bs.length ≤ i
    · have HS : Hid (mustS bs c (i, 0) = (i, 31)) := by unfold Hid mustS; simp [hl]
      have HF : Hid (failS bs (i, 31) = (i, 31)) := by unfold Hid failS; simp
      rw [show byteS bs (i, 0) = (0, (i, 31)) from by unfold byteS; simp [hl]] at HB
      have hq : ((0 : Int) != (c : Int)) = true := by simp; omega
      go_enter Tryd.func57, Tryd.ntmps57
      go_wp2_with fail
      refine HB.out.mono ?_
      rintro en w1 ⟨rfl, hw1⟩
      have HW1 := Lib.hid hw1
      clear hw1
      go_wp2_with fail
      refine (dfail_ok R A b o cap bs i 31 _ HW1.out.rd).mono ?_
      rintro en w2 ⟨rfl, hw2⟩
      rw [HF.out] at hw2
      have HW2 := Lib.hid (HW1.out.trans hw2)
      have c2 := hw2.rd.c2
      clear hw2
      go_wp2
      go_end0
      rw [HS.out]
      exact ⟨rfl, HW2.out⟩
    · rw [show byteS bs (i, 0) = ((bs.getD i 0).toNat, (i, 0)) from by unfold byteS; simp [hl]] at HB
      obtain ⟨d, hd⟩ : ∃ d, (bs.getD i 0).toNat = d := ⟨_, rfl⟩
      have hd256 : d < 256 := by rw [← hd]; exact UInt8.toNat_lt _
      by_cases hdc : d = c
      · have HS : Hid (mustS bs c (i, 0) = (i + 1, 0)) := by unfold Hid mustS; simp [hl, ← hdc, ← hd]
        rw [hd] at HB
        clear hd
        subst hdc
        go_enter Tryd.func57, Tryd.ntmps57
        go_wp2_with fail
        refine HB.out.mono ?_
        rintro en w1 ⟨rfl, hw1⟩
        have HW1 := Lib.hid hw1
        have c1 := hw1.rd.c1
        have c2 := hw1.rd.c2
        have f1 := hw1.rd.f1
        clear hw1
        go_wp2
        go_end0
        rw [HS.out]
        exact ⟨rfl, HW1.out.place (i + 1) (by omega)⟩
      · have HS : Hid (mustS bs c (i, 0) = (i, 30)) := by unfold Hid mustS; simp only [List.getD_eq_getElem?_getD] at hd ⊢; simp [hl, hd, hdc]
        have HF : Hid (failS bs (i, 0) = (i, 30)) := by unfold Hid failS; simp [hl]
        have hq : ((d : Int) != (c : Int)) = true := by simp; omega
        rw [hd] at HB
        clear hd
        go_enter Tryd.func57, Tryd.ntmps57
        go_wp2_with fail
        refine HB.out.mono ?_
        rintro en w1 ⟨rfl, hw1⟩
        have HW1 := Lib.hid hw1
        clear hw1
        go_wp2_with fail
        refine (dfail_ok R A b o cap bs i 0 _ HW1.out.rd).mono ?_
        rintro en w2 ⟨rfl, hw2⟩
        rw [HF.out] at hw2
        have HW2 := Lib.hid (HW1.out.trans hw2)
        have c2 := hw2.rd.c2
        clear hw2
        go_wp2
        go_end0
        rw [HS.out]
        exact ⟨rfl, HW2.out⟩
  · have HS : Hid (mustS bs c (i, e) = (i, e)) := by unfold Hid mustS; simp [he]
    have HF : Hid (failS bs (i, e) = (i, e)) := by unfold Hid failS; simp [he]
    rw [show byteS bs (i, e) = (0, (i, e)) from by unfold byteS; simp [he]] at HB
    have hq : ((0 : Int) != (c : Int)) = true := by simp; omega
    have h0 : ((e : Int) == 0) = false := by simp; omega
    go_enter Tryd.func57, Tryd.ntmps57
    go_wp2_with fail
    refine HB.out.mono ?_
    rintro en w1 ⟨rfl, hw1⟩
    have HW1 := Lib.hid hw1
    clear hw1
    go_wp2_with fail
    refine (dfail_ok R A b o cap bs i e _ HW1.out.rd).mono ?_
    rintro en w2 ⟨rfl, hw2⟩
    rw [HF.out] at hw2
    have HW2 := Lib.hid (HW1.out.trans hw2)
    have c2 := hw2.rd.c2
    clear hw2
    go_wp2
    go_end0
    rw [HS.out]
    exact ⟨rfl, HW2.out⟩

set_option maxRecDepth 100000 in
set_option maxHeartbeats 2000000 in
theorem dend_ok (R : Nat) (A : Option Addr) (b o cap : Nat) (bs : List UInt8) (i e : Nat) (w : World) (h : RdAt w R A b o cap bs i e) :
    Calls Tryd.prog 43 #[.pointer (some ⟨R, 0, none⟩)] w fun en w' => en = .returned (.tuple #[]) ∧ Went w R A b o cap bs (endS bs (i, e)) w' := by
  have HM := Lib.hid (dmust_ok R A b o cap bs i e 13 (by omega) (by omega) w h)
  rw [show (((13 : Nat) : Nat) : Int) = 13 from rfl] at HM
  unfold endS
  obtain ⟨⟨i1, e1⟩, hs1⟩ : ∃ s, mustS bs 13 (i, e) = s := ⟨_, rfl⟩
  rw [hs1] at HM ⊢
  go_enter Tryd.func43, Tryd.ntmps43
  go_wp2_with fail
  refine HM.out.mono ?_
  rintro en w1 ⟨rfl, hw1⟩
  have HW1 := Lib.hid hw1
  have HM2 := Lib.hid (dmust_ok R A b o cap bs i1 e1 10 (by omega) (by omega) w1 hw1.rd)
  rw [show (((10 : Nat) : Nat) : Int) = 10 from rfl] at HM2
  clear hw1
  go_wp2_with fail
  refine HM2.out.mono ?_
  rintro en w2 ⟨rfl, hw2⟩
  have HW2 := Lib.hid (HW1.out.trans hw2)
  clear hw2
  go_wp2
  go_end0
  exact ⟨rfl, HW2.out⟩

end Go.Proofs.YtppbcdollomebaaDoor
