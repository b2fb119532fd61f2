/-
  The walk of the statement RespNobody: it answers true. Condition: cut answers some slice.
-/
import Derived.Test.YtmbgonldbhpanaaRpM
namespace Go.Proofs.Ytmbgonldbhpanaa
open Go.RowKit

set_option maxRecDepth 100000 in
set_option maxHeartbeats 1000000 in
theorem pfeed_nobody (v : Value) (w : World) :
    Calls Try.prog 15 #[.pointer none, v] w fun e w' => e = .returned (.tuple #[.slice none 0 0, .string ⟨#[]⟩, .int .i64 4]) ∧ w = w' := by
  go_enter Try.func15, Try.ntmps15
  go_wp2_with fail
  refine (pisMade_nil w).mono ?_
  rintro e w' ⟨rfl, rfl⟩
  go_wp2
  go_ret3
  exact ⟨rfl, rfl⟩
set_option maxRecDepth 100000 in
set_option maxHeartbeats 1000000 in
theorem pfeed_unmade (G : Nat) (v : Value) (w : World) (h : w.cell? ⟨G, 0, none⟩ = some (.pointer none)) :
    Calls Try.prog 15 #[.pointer (some ⟨G, 0, none⟩), v] w fun e w' => e = .returned (.tuple #[.slice none 0 0, .string ⟨#[]⟩, .int .i64 4]) ∧ w = w' := by
  have HM := Lib.hid (pisMade_no G w h)
  go_enter Try.func15, Try.ntmps15
  go_wp2_with fail
  refine HM.out.mono ?_
  rintro e w' ⟨rfl, rfl⟩
  go_wp2
  go_ret3
  exact ⟨rfl, rfl⟩
set_option maxRecDepth 100000 in
set_option maxHeartbeats 1000000 in
theorem pfeed_done (G : Nat) (kv : Value) (kept : List UInt8) (v : Value) (w : World) (h : RdS w G kv kept true) :
    Calls Try.prog 15 #[.pointer (some ⟨G, 0, none⟩), v] w fun e w' => e = .returned (.tuple #[.slice none 0 0, .string ⟨#[]⟩, .int .i64 20]) ∧ w = w' := by
  have HM := Lib.hid (pisMade_yes G w h.c0)
  have hc2 := h.c2
  clear h
  go_enter Try.func15, Try.ntmps15
  go_wp2_with fail
  refine HM.out.mono ?_
  rintro e w' ⟨rfl, rfl⟩
  go_wp2
  go_ret3
  exact ⟨rfl, rfl⟩
set_option maxRecDepth 100000 in
set_option maxHeartbeats 1000000 in
theorem pleft_nobody (w : World) :
    Calls Try.prog 17 #[.pointer none] w fun e w' => e = .returned (.int .i64 0) ∧ w = w' := by
  go_enter Try.func17, Try.ntmps17
  go_wp2_with fail
  refine (pisMade_nil w).mono ?_
  rintro e w' ⟨rfl, rfl⟩
  go_wp2
  go_ret
  exact ⟨rfl, rfl⟩
set_option maxRecDepth 100000 in
set_option maxHeartbeats 1000000 in
theorem pleft_unmade (G : Nat) (w : World) (h : w.cell? ⟨G, 0, none⟩ = some (.pointer none)) :
    Calls Try.prog 17 #[.pointer (some ⟨G, 0, none⟩)] w fun e w' => e = .returned (.int .i64 0) ∧ w = w' := by
  have HM := Lib.hid (pisMade_no G w h)
  go_enter Try.func17, Try.ntmps17
  go_wp2_with fail
  refine HM.out.mono ?_
  rintro e w' ⟨rfl, rfl⟩
  go_wp2
  go_ret
  exact ⟨rfl, rfl⟩

def nbL : List UInt8 := [42, 49, 13, 10, 43]
def nbF : List UInt8 := [80, 114, 111, 116, 111, 99, 111, 108, 32, 101, 114, 114, 111, 114, 58, 32, 101, 120, 112, 101, 99, 116, 101, 100, 32, 39, 36, 39, 44, 32, 103, 111, 116, 32, 39, 43, 39]
theorem nb_split : splitS nbL = ([], 0, nbF) := by kernel_rfl

set_option maxRecDepth 100000 in
set_option maxHeartbeats 4000000 in
theorem respNobody_gen (v v' : Value) (w : World) (hcut : ∀ W, Calls Try.prog 9 #[v] W fun e w' => e = .returned v' ∧ W = w') :
    Calls Try.prog 8 #[v] w fun e w' => e = .returned (.bool true) ∧ Below w.heap.size w w' := by
  have HCUT := Lib.hid hcut
  have hcv := fun (w : World) (C : Array Value) (n c : Nat) => Lib.run_convert_bytes_const (P := Try.prog) w 22 5 C n c Try.underlying22 Try.underlying5
  clear hcut
  obtain ⟨H, hH⟩ : ∃ H, w.heap.size = H := ⟨_, rfl⟩
  obtain ⟨os, hos⟩ : ∃ os : List Obj, os = [.cells #[.pointer none, .slice none 0 0, .bool false] 46, .cells #[.pointer none, .pointer (some ⟨H, 0, none⟩)] 31] := ⟨_, rfl⟩
  have hWz := allocs_size os w
  have hWb := allocs_below os w
  have hWh := allocs_heap os w
  rw [hH] at hWz hWb hWh
  have hol : os.length = 2 := by rw [hos]; rfl
  obtain ⟨W, hW⟩ : ∃ W, os.foldl World.alloc w = W := ⟨_, rfl⟩
  rw [hW, hol] at hWz
  rw [hW] at hWb hWh
  have h0 := hWh 0 (by omega)
  have h1 := hWh 1 (by omega)
  rw [hos] at h0 h1 hW
  simp only [List.foldl_cons, List.foldl_nil] at hW
  simp only [List.getElem?_cons_zero, List.getElem?_cons_succ, Nat.add_zero] at h0 h1
  have c0 : W.cell? ⟨H, 0, none⟩ = some (.pointer none) := (cell_in h0).trans rfl
  have d0 : W.cell? ⟨H + 1, 0, none⟩ = some (.pointer none) := (cell_in h1).trans rfl
  have d1 : W.cell? ⟨H + 1, 1, none⟩ = some (.pointer (some ⟨H, 0, none⟩)) := (cell_in h1).trans rfl
  have HWB := Lib.hid hWb
  have HUM := Lib.hid (pfeed_unmade H v W c0)
  have HUL := Lib.hid (pleft_unmade H W c0)
  clear hWb hWh hos hol h0 h1
  go_enter Try.func8, Try.ntmps8
  rw [hH]
  go_wp2
  go_loopw [5, 6, 7, 8, 21] (fun _ _ _ _ i wr => wr = W ∧ ∃ k : Nat, i = .int .i64 k ∧ k ≤ 2) (fun _ _ _ _ i _ => 2 - (intOf i).toNat)
  case atStart => exact ⟨rfl, 0, rfl, by omega⟩
  case round =>
    obtain ⟨rfl, k, rfl, hk⟩ := hrel
    rcases Nat.lt_or_ge k 1 with hk0 | hk0
    · obtain rfl : k = 0 := by omega
      go_wp2_with fail
      refine (pfeed_nobody v wr).mono ?_
      rintro e w' ⟨rfl, rfl⟩
      go_wp2_with fail
      refine (pleft_nobody wr).mono ?_
      rintro e w' ⟨rfl, rfl⟩
      go_wp2
      go_roundw
      case rel => exact ⟨by first | trivial | rfl, 1, by go_num, by omega⟩
      case measure => simp [intOf]
    rcases Nat.lt_or_ge k 2 with hk1 | hk1
    · obtain rfl : k = 1 := by omega
      go_wp2_with fail
      refine HUM.out.mono ?_
      rintro e w' ⟨rfl, rfl⟩
      go_wp2_with fail
      refine HUL.out.mono ?_
      rintro e w' ⟨rfl, rfl⟩
      go_wp2
      go_roundw
      case rel => exact ⟨by first | trivial | rfl, 2, by go_num, by omega⟩
      case measure => simp [intOf]
    obtain rfl : k = 2 := by omega
    go_wp2_with fail
    refine (pnew_any wr).mono ?_
    rintro e w3 ⟨rfl, hw3⟩
    have R3 := rds_new wr
    rw [← hw3] at R3
    have hb3 : Below wr.heap.size wr w3 := by rw [hw3]; exact (Below.refl _ _).alloc (Nat.le_refl _) _
    have hz3 : w3.heap.size = wr.heap.size + 1 := by rw [hw3]; simp
    obtain ⟨w4, hw4⟩ : ∃ w4, w4 = w3.alloc (.cells (nbL.map fun c => Value.int .u8 (c.toNat : Int)).toArray 5 (5, 6)) := ⟨_, rfl⟩
    have hb4 : Below w3.heap.size w3 w4 := by rw [hw4]; exact (Below.refl _ _).alloc (Nat.le_refl _) _
    have hz4 : w4.heap.size = w3.heap.size + 1 := by rw [hw4]; simp
    have HF1 := Lib.hid (pfeed_some wr.heap.size (.slice none 0 0) [] w3.heap.size 0 5 nbL w4 (R3.on hb4) (by rw [hw4]; exact bytes_new w3 nbL (5, 6)) (by decide))
    unfold FeedPost at HF1
    rw [List.nil_append, nb_split, hw4] at HF1
    have HZ3 := Lib.hid hz3
    have HZ4 := Lib.hid hz4
    have HWZ := Lib.hid hWz
    clear hw3 R3 hz3 hz4 hWz c0 d0 d1
    go_wp2_with fail
    refine HF1.out.mono ?_
    rw [← hw4]
    clear HF1 hw4
    rintro e w5 ⟨hm5, ⟨va, rfl, hva⟩, kv5, hr5, hk5⟩
    obtain ⟨Aa, caa, rfl⟩ := hva.len
    have hre : restS nbL = [] := by unfold restS; rw [nb_split]; rfl
    rw [hre] at hr5
    have hz3 := HZ3.out
    have hz4 := HZ4.out
    have hWz := HWZ.out
    have hb5 : Below wr.heap.size w4 w5 := hm5.low (Nat.le_refl _) (fun k hk => by cases hk)
    have hall : Below H w w5 := HWB.out.trans ((((hb3.trans (hb4.mono (by omega))).trans hb5)).mono (by omega))
    have HALL := Lib.hid hall
    have HR5 := Lib.hid (show RdS w5 wr.heap.size kv5 [] true from hr5)
    have HAW := Lib.hid (awake_any w5)
    have hsz5 := hall.size
    clear hm5 hva hr5 hk5 hre hall hb5 hb4 hb3 hz3 hz4 hWz
    go_wp2_with fail
    refine (HCUT.out w5).mono ?_
    rintro e w' ⟨rfl, rfl⟩
    go_wp2_with fail
    refine (pfeed_done wr.heap.size kv5 [] v' w5 HR5.out).mono ?_
    rintro e w' ⟨rfl, rfl⟩
    go_wp2_with fail
    refine (pleft_any wr.heap.size kv5 [] true w5 HR5.out).mono ?_
    rintro e w' ⟨rfl, rfl⟩
    simp only [List.length_nil]
    go_wp2_with fail
    refine HAW.out.mono ?_
    rintro e w8 ⟨rfl, hb8⟩
    have HFIN := Lib.hid (HALL.out.trans (hb8.mono (by omega)))
    clear hb8
    go_wp2
    go_ret
    exact ⟨rfl, HFIN.out⟩

theorem respNobody_some (b o cap : Nat) (l : List UInt8) (w : World) (hl : l.length ≤ cap) (hcap : cap ≤ 9223372036854775807) :
    Calls Try.prog 8 #[.slice (some ⟨b, o, none⟩) l.length cap] w fun e w' => e = .returned (.bool true) ∧ Below w.heap.size w w' :=
  respNobody_gen _ _ w (fun W => cut_any b o cap l W hl hcap)
theorem respNobody_none (A : Option Addr) (cap : Nat) (w : World) :
    Calls Try.prog 8 #[.slice A 0 cap] w fun e w' => e = .returned (.bool true) ∧ Below w.heap.size w w' :=
  respNobody_gen _ _ w (fun W => cut_short A 0 cap W (by omega))

end Go.Proofs.Ytmbgonldbhpanaa
