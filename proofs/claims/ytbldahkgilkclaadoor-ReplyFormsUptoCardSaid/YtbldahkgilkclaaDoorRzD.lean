/-
  The walk of bytes.IndexAny where the bytes that end a line are looked for: at any bytes. Conditions: the bytes lie in memory; the decoder's two tables hold what their own text lays. The walk of bytes.IndexAny where the bytes that end a line are looked for: at any bytes. Conditions: the bytes lie in memory; the decoder's two tables hold what their own text lays. The walk of bytes.IndexAny where the bytes that end a line are looked for, at eight bytes or fewer. Conditions: the bytes lie in memory; the decoder's two tables hold what their own text lays.
-/
import Derived.Test.YtbldahkgilkclaaDoorRzA
import Derived.Test.YtbldahkgilkclaaDoorShelf
import Derived.Shelf.Strings.IndexAnyAll
import Derived.Lib.IndexEntry
namespace Go.Proofs.YtbldahkgilkclaaDoor
open Go.RowKit

def crlf : List UInt8 := [13, 10]
def crlfT : ByteArray := ⟨#[13, 10]⟩

theorem asciiT : Tryd.prog.underlying 94 = some (TypeDesc.array 256 4) := by kernel_rfl
theorem asciiA (w : World) : (isAgg 94).run Tryd.prog w = .ok true w := by simp [go_sem]
theorem asciiInfo : (Tryd.prog.info? 94).map (fun i => (i.zero, i.size)) = some (some (.agg (Array.replicate 256 (.bool false))), 256) := by kernel_rfl

set_option maxRecDepth 1000000 in
set_option maxHeartbeats 4000000 in
theorem bmake (w : World) : Calls Tryd.prog 63 #[.string ⟨#[13, 10]⟩] w fun e w' => e = .returned (.tuple #[.agg (Lib.setCells crlf), .bool true]) ∧ w' = w.alloc (.cells (Lib.setCells crlf) 94) := by
  have hz116 := (zero_of_info asciiInfo).1
  have hi116 := (zero_of_info asciiInfo).2
  have hc0 := Lib.setCells_at (crlf.take 0) 13
  have hc1 := Lib.setCells_at (crlf.take 1) 10
  have HC0 := Lib.hid hc0
  go_enter Tryd.func63, Tryd.ntmps63
  go_wp2
  rw [← Lib.setCells_nil]
  go_loopg [4] 2 (fun g s4 wx => ∃ i : Nat, i + g = 2 ∧ s4 = .int .i64 i ∧ wx = w.alloc (.cells (Lib.setCells (crlf.take i)) 94))
  case atStart => exact ⟨0, by omega, rfl, rfl⟩
  case round =>
    obtain ⟨i, hig, rfl, rfl⟩ := hrel
    cases gk with
    | zero =>
      obtain rfl : i = 2 := by omega
      rw [show crlf.take 2 = crlf from rfl]
      have hld := run_loadVar_new (P := Tryd.prog) w 94 (Lib.setCells crlf) 256 4 asciiT (by rw [Lib.setCells_size]; exact hi116)
      have hsz := Lib.setCells_size crlf
      have hlc := run_loadCellsFrom_new (P := Tryd.prog) w 94 (Lib.setCells crlf) 256 hsz
      have hsc := run_storeCells_new (P := Tryd.prog) w 94 (Lib.setCells crlf) (Lib.setCells crlf) (by rw [hsz]; exact hi116) rfl (Lib.setCells_one _)
      go_wp2
      have hLA := run_loadAt_new (P := Tryd.prog) w 94 (Lib.setCells crlf) 256 4 asciiT (by rw [hsz]; exact hi116)
      have hSA := run_storeAt_new (P := Tryd.prog) w 94 (Lib.setCells crlf) (Lib.setCells crlf) (by rw [hsz]; exact hi116) rfl (Lib.setCells_one _)
      unfold Oper.wp
      rw [show (execOp _ _).run Tryd.prog _ = Result.ok (Next.value (.agg (Lib.setCells crlf))) (w.alloc (.cells (Lib.setCells crlf) 94)) from by
        show Sem.run _ (do pure (Next.value (← Instr.loadAt 94 (.pointer (some ⟨w.heap.size, 0, none⟩))))) _ = _
        rw [Sem.run_bind, hLA]
        rfl]
      rw [Oper.upon_value]
      go_wp2
      refine bodyPost_ret (v := .tuple #[.agg (Lib.setCells crlf), .bool true]) ?_ rfl ⟨rfl, rfl⟩
      rw [results_cell_tmp rfl]
      simp [asAddr, Result.andThen, hld]
    | succ g =>
      obtain rfl | rfl : i = 0 ∨ i = 1 := by omega
      · go_wp2
        go_roundg g
        case measure => omega
        case rel => exact ⟨1, by omega, by first | rfl | simp, by rw [show crlf.take 1 = crlf.take 0 ++ [13] from rfl, Lib.setCells_snoc]; rfl⟩
      · go_wp2
        go_roundg g
        case measure => omega
        case rel => exact ⟨2, by omega, by first | rfl | simp, by rw [show crlf.take 2 = crlf.take 1 ++ [10] from rfl, Lib.setCells_snoc]; rfl⟩

def CrPost (l : List UInt8) (w : World) (e : Ending) (w' : World) : Prop := e = .returned (.int .i64 (Lib.indexAny l crlf)) ∧ Below w.heap.size w w'

theorem bshould (n : Int) (w : World) : Calls Tryd.prog 62 #[.int .i64 n] w fun e w' => e = .returned (.bool (decide (8 < n))) ∧ w' = w := by
  go_enter Tryd.func62, Tryd.ntmps62
  go_wp2
  go_ret
  exact ⟨rfl, rfl⟩

theorem bcontains (b : Nat) (x : UInt8) (v : Bool) (w : World) (hc : w.cell? ⟨b, x.toNat, none⟩ = some (.bool v)) :
    Calls Tryd.prog 64 #[.pointer (some ⟨b, 0, none⟩), .int .u8 x.toNat] w fun e w' => e = .returned (.bool v) ∧ w' = w := by
  have hx256 : (x.toNat : Int) < 256 := by have := UInt8.toNat_lt x; omega
  go_enter Tryd.func64, Tryd.ntmps64
  go_wp2
  go_ret
  exact ⟨rfl, rfl⟩

set_option maxRecDepth 1000000 in
set_option maxHeartbeats 4000000 in
theorem bindex_long (b o cap : Nat) (l : List UInt8) (w : World) (hb : b < w.heap.size) (hl : BytesAt w b o l) (h8 : 8 < l.length) (hm : l.length ≤ 65536) :
    Calls Tryd.prog 50 #[.slice (some ⟨b, o, none⟩) l.length cap, .string ⟨#[13, 10]⟩] w (CrPost l w) := by
  have HM := Lib.hid (bmake w)
  have h8z : decide ((8 : Int) < (l.length : Int)) = true := decide_eq_true (by omega)
  have hn1 : ((l.length : Int) == 1) = false := beq_eq_false_iff_ne.2 (by omega)
  have HL := Lib.hid hl
  clear hl
  have hi116 := (zero_of_info asciiInfo).2
  obtain ⟨w1, hw1⟩ : ∃ w1, w.alloc (.cells (Lib.setCells crlf) 94) = w1 := ⟨_, rfl⟩
  have hz1 : w1.heap.size = w.heap.size + 1 := by rw [← hw1]; simp
  have hb1 : Below w.heap.size w w1 := by rw [← hw1]; exact (Below.refl _ _).alloc (Nat.le_refl _) _
  have hsc := run_storeCells_new (P := Tryd.prog) w1 94 Tryd.zeroCells94 (Lib.setCells crlf) (by rw [Lib.setCells_size]; exact hi116) (by rw [Lib.setCells_size]; kernel_rfl) (Lib.setCells_one _)
  obtain ⟨w2, hw2⟩ : ∃ w2, w1.alloc (.cells (Lib.setCells crlf) 94) = w2 := ⟨_, rfl⟩
  have hb2 : Below w.heap.size w w2 := by rw [← hw2]; exact hb1.alloc (by omega) _
  have hset : ∀ x : UInt8, w2.cell? ⟨w1.heap.size, x.toNat, none⟩ = some (.bool (crlf.contains x)) := fun x => by rw [← hw2, World.cell?_alloc_at _ _ _ _ (by simp), Lib.setCells_at]
  rw [hw2] at hsc
  have HW1 := Lib.hid hw1
  have HSC := Lib.hid hsc
  have HB2 := Lib.hid hb2
  have HSET := Lib.hid hset
  have HZ1 := Lib.hid hz1
  clear hw1 hw2 hz1 hb1 hsc hb2 hset
  go_enter Tryd.func50, Tryd.ntmps50
  go_wp2_with (first
    | (go_at_call 62; refine (bshould _ _).mono ?_; rintro e w' ⟨rfl, hw⟩; rw [hw, h8z])
    | (go_at_call 63; refine HM.out.mono ?_; rintro e w' ⟨rfl, rfl⟩))
  rw [HW1.out, ← HZ1.out, HSC.out]
  simp only [Result.andThen]
  rw [Oper.upon_skip]
  go_wp2
  have HL2 := Lib.hid (HL.out.below HB2.out hb)
  go_loopg [62] l.length (fun g s8 wx => ∃ i : Nat, i + g = l.length ∧ s8 = .int .i64 i ∧ wx = w2 ∧ Lib.NoAny l crlf i)
  case atStart => exact ⟨0, by omega, rfl, rfl, Lib.NoAny.zero _ _⟩
  case round =>
    obtain ⟨i, hig, rfl, rfl, hno⟩ := hrel
    have HN := Lib.hid hno
    clear hno
    cases gk with
    | zero =>
      obtain rfl : i = l.length := by omega
      have hiz : ¬ ((l.length : Int) < (l.length : Int)) := by omega
      go_wp2
      go_ret
      exact ⟨by rw [Lib.indexAny_none HN.out]; rfl, HB2.out⟩
    | succ g =>
      have hi : i < l.length := by omega
      have hiz : (i : Int) < (l.length : Int) := by omega
      have hcell := HL2.out i hi
      obtain ⟨x, hx⟩ : ∃ x, l.getD i 0 = x := ⟨_, rfl⟩
      have Hx : Hid (l[i]? = some x) := by rw [← hx]; unfold Hid; rw [List.getD_eq_getElem?_getD, List.getElem?_eq_getElem hi]; rfl
      rw [hx] at hcell
      have HCX := Lib.hid (HSET.out x)
      clear hx
      cases hin : crlf.contains x with
      | false =>
        rw [hin] at HCX
        go_wp2_with (go_at_call 64; refine (bcontains _ x _ _ HCX.out).mono ?_; rintro e w' ⟨rfl, hw⟩; rw [hw])
        go_roundg g
        case measure => omega
        case rel => exact ⟨i + 1, by omega, by first | rfl | simp, rfl, HN.out.succ Hx.out hin⟩
      | true =>
        rw [hin] at HCX
        go_wp2_with (go_at_call 64; refine (bcontains _ x _ _ HCX.out).mono ?_; rintro e w' ⟨rfl, hw⟩; rw [hw])
        go_ret
        exact ⟨by rw [Lib.indexAny_hit HN.out Hx.out hin]; rfl, HB2.out⟩

theorem run_ib (c : Int) (w : World) : (callFunc 60 #[.string ⟨#[13, 10]⟩, .int .u8 c]).run Tryd.prog w = .ok (.value (.int .i64 (Lib.indexByte crlf c.toNat.toUInt8))) w := by
  rw [run_callFunc_extern Tryd.func60 (by kernel_rfl) (by kernel_rfl) (by kernel_rfl) (e := Extern.BytealgIndexByte.indexByte) (by kernel_rfl), Lib.run_indexByteString]
  rfl

theorem crlf_has (x : UInt8) : decide ((0 : Int) ≤ Lib.indexByte crlf x) = crlf.contains x := (Lib.contains_iff_indexByte crlf x).symm

set_option maxRecDepth 1000000 in
set_option maxHeartbeats 4000000 in
theorem bindex_one (b o cap : Nat) (c : UInt8) (w : World) (hl : BytesAt w b o [c]) :
    Calls Tryd.prog 50 #[.slice (some ⟨b, o, none⟩) 1 cap, .string ⟨#[13, 10]⟩] w (CrPost [c] w) := by
  have hcell := hl 0 (by simp)
  simp only [Nat.add_zero, List.getD_cons_zero] at hcell
  clear hl
  have hc256 := UInt8.toNat_lt c
  obtain ⟨d, hd⟩ : ∃ d, c.toNat = d := ⟨_, rfl⟩
  rw [hd] at hcell hc256
  have hdc : ((d : Int)).toNat.toUInt8 = c := by rw [← hd]; simp
  have HDC := Lib.hid hdc
  have HD := Lib.hid hd
  clear hd hdc
  by_cases h128 : d < 128
  · have hdz : ¬ ((128 : Int) ≤ (d : Int)) := by omega
    have h76 := run_ib d
    rw [HDC.out] at h76
    obtain ⟨X, hX⟩ : ∃ X, Lib.indexByte crlf c = X := ⟨_, rfl⟩
    have HIN : Hid (decide ((0 : Int) ≤ X) = crlf.contains c) := by rw [← hX]; exact crlf_has c
    rw [hX] at h76
    clear hX
    cases hin : crlf.contains c with
    | true =>
      rw [hin] at HIN
      have hx0 : (0 : Int) ≤ X := of_decide_eq_true HIN.out
      go_enter Tryd.func50, Tryd.ntmps50
      go_wp2
      go_ret
      exact ⟨by rw [Lib.indexAny_hit (Lib.NoAny.zero _ _) rfl hin]; rfl, Below.refl _ _⟩
    | false =>
      rw [hin] at HIN
      have hx0 : ¬ ((0 : Int) ≤ X) := of_decide_eq_false HIN.out
      go_enter Tryd.func50, Tryd.ntmps50
      go_wp2
      go_ret
      exact ⟨by rw [Lib.indexAny_none ((Lib.NoAny.zero _ _).succ rfl hin)]; rfl, Below.refl _ _⟩
  · have hdz : (128 : Int) ≤ (d : Int) := by omega
    have hd256 : (d : Int) < 256 := by omega
    have HNO : Hid (Lib.indexAny [c] crlf = -1) := Lib.indexAny_none ((Lib.NoAny.zero _ _).succ rfl (by
      have : ¬ c.toNat < 128 := by rw [HD.out]; exact h128
      cases hq : crlf.contains c with
      | false => rfl
      | true =>
        exfalso
        simp [crlf] at hq
        rcases hq with hq | hq <;> (subst hq; exact this (by decide))))
    go_enter Tryd.func50, Tryd.ntmps50
    go_wp2
    go_loopg [5] 2 (fun g _ wx => ∃ i : Nat, i + g = 2 ∧ wx = w.iter ⟨#[13, 10]⟩ i)
    case atStart => exact ⟨0, by omega, rfl⟩
    case round =>
      obtain ⟨i, hig, rfl⟩ := hrel
      cases gk with
      | zero =>
        obtain rfl : i = 2 := by omega
        have hnx := run_next_end (P := Tryd.prog) w ⟨#[13, 10]⟩ 2
        go_wp2
        go_ret
        exact ⟨by rw [HNO.out]; rfl, (Below.refl _ _).alloc (Nat.le_refl _) _⟩
      | succ g =>
        obtain rfl | rfl : i = 0 ∨ i = 1 := by omega
        · have hnx := fun ty => run_next_ascii (P := Tryd.prog) w ⟨#[13, 10]⟩ 0 ty (by decide) (by decide)
          go_wp2
          go_roundg g
          case measure => omega
          case rel => exact ⟨1, by omega, rfl⟩
        · have hnx := fun ty => run_next_ascii (P := Tryd.prog) w ⟨#[13, 10]⟩ 1 ty (by decide) (by decide)
          go_wp2
          go_roundg g
          case measure => omega
          case rel => exact ⟨2, by omega, rfl⟩

end Go.Proofs.YtbldahkgilkclaaDoor
