/-
  Package skip: Load, New: the walks. Conditions: the members lie in memory; the table of math/bits lies where the program laid it.
-/
import Derived.Test.YtcbiiioglklpoaaDoorSkC4
namespace Go.Proofs.YtcbiiioglklpoaaDoor
open Go.RowKit

theorem info_scored : (Tryd.prog.info? 47).map (fun i => (i.zero, i.size, i.bytes)) = some (some (.agg #[.string ⟨#[]⟩, .int .i64 0]), 2, 24) := by kernel_rfl

def sz0 (j : Nat) : Value := if j % 2 = 0 then .string ⟨#[]⟩ else .int .i64 0

theorem make_scored {n : Nat} (hn : n ≤ 800000) (w : World) : (Instr.makeSlice 35 (.int .i64 (n : Int)) (.int .i64 (n : Int))).run Tryd.prog w = .ok (.slice (some ⟨w.heap.size, 0, none⟩) n n) (w.alloc (.cells (madeCells #[.string ⟨#[]⟩, .int .i64 0] (n * 2)) 47)) := by
  obtain ⟨i, hi, hz⟩ := Option.map_eq_some_iff.1 info_scored
  simp only [Prod.mk.injEq] at hz
  obtain ⟨z1, z2, z3⟩ := hz
  have q := run_make (P := Tryd.prog) w 35 47 i (.agg #[.string ⟨#[]⟩, .int .i64 0]) Tryd.underlying35 hi z1 .i64 .i64 (n : Int) (n : Int) (by omega) (by omega) (by rw [z3]; omega) (by omega)
  rw [z2, show (Value.agg #[.string ⟨#[]⟩, .int .i64 0]).cells = #[.string ⟨#[]⟩, .int .i64 0] from rfl] at q
  simpa using q

theorem made_row (w : World) (n : Nat) : (w.alloc (.cells (madeCells #[.string ⟨#[]⟩, .int .i64 0] (n * 2)) 47)).rowIs w.heap.size 47 (n * 2) sz0 := by
  have q := World.rowIs_alloc w (madeCells #[.string ⟨#[]⟩, .int .i64 0] (n * 2)) 47 sz0 (fun i hi => by
    rw [size_madeCells] at hi
    unfold madeCells sz0
    simp only [Array.getElem?_map, Array.getElem?_range, hi, if_true, Option.map_some]
    rcases (by omega : i % 2 = 0 ∨ i % 2 = 1) with e | e
    · simp [e]
    · simp [e])
  rw [size_madeCells] at q
  exact q

set_option maxRecDepth 100000 in
set_option maxHeartbeats 8000000 in
theorem load_any (seed : Nat) (hsd : seed < 18446744073709551616) {A : Option Addr} {n cp : Nat} {l : List Mb} (w : World) (hl : ScAt w A n cp l) (hn : n ≤ 800000) (hb : ∀ x ∈ l, x.1.length ≤ 1000000000) (hz : Tz w) (hg : 0 < w.heap.size) :
    Calls Tryd.prog 17 #[.int .u64 (seed : Nat), .slice A n cp] w fun e w' => Below w.heap.size w w' ∧
      ((Each l ∧ ∃ (base s c h mb : Nat) (ns : List Nd) (S : Nat → Nat → Value) (g : List UInt8 → Option Nat) (sz : Nat) (L : List Mb), e = .returned (.tuple #[.pointer (some ⟨s, 0, none⟩), .int .i64 0]) ∧ w.heap.size ≤ base ∧ LsAt w' base seed s c h mb n ns S g sz L ∧ L.Perm l) ∨
       (¬ Each l ∧ e = .returned (.tuple #[.pointer none, .int .i64 70]))) := by
  have HL := Lib.hid hl
  have HN := Lib.hid hn
  have HB := Lib.hid hb
  have HZ := Lib.hid hz
  have HG := Lib.hid hg
  have HMK := make_scored hn
  obtain ⟨M, hM⟩ : ∃ M, w.heap.size = M := ⟨_, rfl⟩
  obtain ⟨wa, hwa⟩ : ∃ wa, w.alloc (.cells (madeCells #[.string ⟨#[]⟩, .int .i64 0] (n * 2)) 47) = wa := ⟨_, rfl⟩
  have r1 : wa.rowIs M 47 (n * 2) sz0 := by rw [← hwa, ← hM]; exact made_row w n
  have b1 : Below M w wa := by rw [← hwa, ← hM]; exact (Below.refl _ _).alloc (Nat.le_refl _) _
  have R1 := Lib.hid r1
  have B1 := Lib.hid b1
  have HWA := Lib.hid hwa
  have HMh := Lib.hid hM
  have hmk : (Instr.makeSlice 35 (.int .i64 (n : Int)) (.int .i64 (n : Int))).run Tryd.prog w = .ok (.slice (some ⟨M, 0, none⟩) n n) wa := by rw [HMK w, hwa, hM]
  rw [hM]
  clear hl hn hb hz hg HMK r1 b1 hwa hM
  go_enter Tryd.func17, Tryd.ntmps17
  go_wp2
  go_loopw [15] (fun iv wr => ∃ (j : Nat) (f : Nat → Value), iv = .int .i64 j ∧ j ≤ n ∧ wr.rowIs M 47 (n * 2) f ∧ (∀ q x, q < j → l[q]? = some x → f (q * 2) = .string ⟨x.1.toArray⟩ ∧ f (q * 2 + 1) = .int .i64 x.2) ∧ Below M w wr) (fun iv _ => n - (intOf iv).toNat)
  case atStart => exact ⟨0, sz0, rfl, by omega, R1.out, fun q x h => by omega, B1.out⟩
  case round =>
    obtain ⟨j, f, rfl, hj, hr, hf, hbw⟩ := hrel
    have HR := Lib.hid hr
    have HF := Lib.hid hf
    have HBW := Lib.hid hbw
    clear hr hf hbw
    by_cases hlt : j < n
    · obtain ⟨b, o, ea, hbl, hc⟩ := HL.out.at_ (by omega)
      obtain ⟨x, hx⟩ : ∃ x, l[j]? = some x := ⟨_, List.getElem?_eq_getElem (by rw [HL.out.len]; exact hlt)⟩
      obtain ⟨x0, x1⟩ := hc j x hx
      have hbM : b < M := by rw [← HMh.out]; exact hbl
      have y0 := (HBW.out.cell (p := ⟨b, o + j * 2, none⟩) hbM).trans x0
      have y1 := (HBW.out.cell (p := ⟨b, o + j * 2 + 1, none⟩) hbM).trans x1
      obtain ⟨SM, hSM⟩ : ∃ SM : ByteArray, (⟨x.1.toArray⟩ : ByteArray) = SM := ⟨_, rfl⟩
      obtain ⟨MN, hMN⟩ : ∃ MN, x.2 = MN := ⟨_, rfl⟩
      have HCP := Lib.hid (fun W => copied_any SM MN W (by rw [← hSM]; have := HB.out x (List.mem_of_getElem? hx); show x.1.toArray.size ≤ _; rw [List.size_toArray]; omega))
      rw [hSM] at y0
      rw [hMN] at y1
      have HX := Lib.hid hx
      have HSM := Lib.hid hSM
      have HMN := Lib.hid hMN
      have hjn : (j : Int) < (n : Int) := by omega
      have hn8 : n ≤ 800000 := HN.out
      subst ea
      clear hc x0 x1 hx hSM hMN hbl
      go_wp2_with fail
      refine (HCP.out _).mono ?_
      rintro e w6 ⟨rfl, hb6⟩
      have hb6' : Below wr.heap.size wr w6 := ((Below.refl wr.heap.size wr).alloc (Nat.le_refl _) _).trans (hb6.mono (by simp))
      have HR6 : Hid (w6.rowIs M 47 (n * 2) f) := HR.out.of_block (hb6'.block M HR.out.lt)
      have HB6 : Hid (Below M w w6) := HBW.out.trans (hb6'.mono (by have := HR.out.lt; omega))
      have e0 := HR6.out.cell (i := j * 2) (by omega)
      have e1 := HR6.out.cell (i := j * 2 + 1) (by omega)
      have f0 := HR6.out.frozen (j * 2)
      have f1 := HR6.out.frozen (j * 2 + 1)
      obtain ⟨U0, hU0⟩ : ∃ u, f (j * 2) = u := ⟨_, rfl⟩
      obtain ⟨U1, hU1⟩ : ∃ u, f (j * 2 + 1) = u := ⟨_, rfl⟩
      rw [hU0] at e0
      rw [hU1] at e1
      clear hU0 hU1 hb6 hb6'
      go_wp2
      go_roundw
      case rel =>
        refine ⟨j + 1, _, by go_num, by omega, (HR6.out.set (j * 2) _).set (j * 2 + 1) _, fun q y hq hy => ?_, (HB6.out.setCell (Nat.le_refl _) _).setCell (Nat.le_refl _) _⟩
        by_cases e : q = j
        · subst e
          rw [HX.out] at hy
          injection hy with hy
          rw [← hy, HSM.out, HMN.out]
          exact ⟨by rw [if_neg (by omega), if_pos rfl], by rw [if_pos rfl]⟩
        · obtain ⟨p1, p2⟩ := HF.out q y (by omega) hy
          exact ⟨by rw [if_neg (by omega), if_neg (by omega)]; exact p1, by rw [if_neg (by omega), if_neg (by omega)]; exact p2⟩
      case measure => simp only [intOf]; omega
    · have hj2 : j = n := by omega
      have HJ := Lib.hid hj2
      have hjn : ¬ (j : Int) < (n : Int) := by omega
      clear hj2 hlt hj
      have hds : l.toArray.size = n := by rw [List.size_toArray, HL.out.len]
      have HHD : Hid (Sort.HoldsK encM 2 wr M 0 l.toArray) := holds_of_row HR.out hds (fun q x hx => by
        have hx' : l[q]? = some x := by simpa using hx
        exact HF.out q x (by have := (List.getElem?_eq_some_iff.1 hx').1; rw [HL.out.len] at this; rw [HJ.out]; exact this) hx')
      have HSRT := AnyQ.slices_SortFunc Tryd.laysSortFunc 2 Tryd.isAgg47 Tryd.sizeOf47 encM (fun _ => rfl) (fun x v hv => by simp [encM] at hv; rcases hv with rfl | rfl <;> rfl) cmpM swoM 47 #[] M 0 n l.toArray wr (fun args w => enter_cmp args w) (cmpLays M l.toArray.size wr) HHD.out HR.out.lt (by rw [hds]; have := HN.out; omega)
      rw [hds] at HSRT
      change Calls Tryd.prog 46 _ _ _ at HSRT
      have HS := Lib.hid HSRT
      have HDS := Lib.hid hds
      clear HSRT hds
      go_wp2_with fail
      refine HS.out.mono ?_
      rintro e w7 ⟨rfl, d', nq, os, hp, hso, rfl⟩
      obtain ⟨w7, hw7⟩ : ∃ w7, sortWorldK encM 2 wr M 0 nq d' os = w7 := ⟨_, rfl⟩
      rw [hw7]
      have hd' : d'.size = n := by rw [hp.1]; exact HDS.out
      have hh7 : Sort.HoldsK encM 2 w7 M 0 d' := by rw [← hw7]; exact sort_holds HHD.out (by rw [hd', HDS.out]) HR.out.lt
      have hs7 : M ≤ wr.heap.size := Nat.le_of_lt HR.out.lt
      have hb7 : Below M w w7 := by rw [← hw7]; exact HBW.out.trans (sort_below (Nat.le_refl _) hs7)
      have hM7 : M < w7.heap.size := by rw [← hw7]; exact Nat.lt_of_lt_of_le HR.out.lt (sort_below (base := 0) (Nat.zero_le _) (Nat.zero_le _)).size
      obtain ⟨hpm, hord⟩ := sorted_ord (d := l.toArray) (by rw [HDS.out]; exact hp) (by rw [HDS.out]; exact hso)
      have hpm' : d'.toList.Perm l := by simpa using hpm
      have HSC := Lib.hid (scAt_of_holds hh7 hd' hM7 (by have := HN.out; omega))
      have HCO := Lib.hid (chainOf_any seed hsd w7 HSC.out HN.out (fun x hx => HB.out x (hpm'.mem_iff.1 hx)) (HZ.out.block (hb7.block _ (by rw [← HMh.out]; exact HG.out))) (by have := hb7.size; have := HG.out; omega))
      have HPM := Lib.hid hpm'
      have HOR : Hid (Each l → Ord d'.toList) := fun h => hord (by simpa using h)
      have HB7 := Lib.hid hb7
      have HD' := Lib.hid hd'
      clear hw7 hh7 hs7 hb7 hM7 hpm hord hpm' hd' hp hso
      go_wp2_with fail
      refine HCO.out.mono ?_
      rintro e w8 ⟨c, h, mb, ns, S, g, sz, rfl, hck, hns, hmi, hb8⟩
      have HCK := Lib.hid hck
      have HNS := Lib.hid hns
      have HMI := Lib.hid hmi
      have HB8 : Hid (Below M w w8) := HB7.out.trans (hb8.mono (by have := HB7.out.size; have := HMh.out; omega))
      have HBS : Hid (w.heap.size ≤ w7.heap.size) := HB7.out.size
      have c2 := hck.blk.cell (i := 2) (by omega)
      rw [show ckF seed h mb 0 2 = .map (some mb) from rfl] at c2
      obtain ⟨D, hD, _, _, hsz⟩ := hck.mp
      have HD := Lib.hid hD
      have HZ8 := Lib.hid hsz
      have hnl : ns.length = n := by rw [← HD'.out, ← Array.length_toList, ← hns, List.length_map]
      have HNL := Lib.hid hnl
      have hle := hmi.le
      have heq := hmi.eq
      have hea : Each (ns.map (·.2)) ↔ Each l := by rw [hns]; exact (HPM.out.map (·.1)).nodup_iff
      have HLO := Lib.hid (listOf_any c w8)
      by_cases hE : Each l
      · have e1 : sz = n := by rw [← hnl]; exact heq.1 (hea.2 hE)
        have hlt9 : ¬ (sz : Int) < (n : Int) := by omega
        have HE := Lib.hid hE
        clear hck hns hmi hb8 hD hsz hnl hle heq hea hE e1
        go_wp2_with (first | (at_len; refine wpList_len_own (H := Nat) _ rfl _ 93 rfl 9 92 Tryd.underlying93 ndElem mb n D rfl HD.out ?_; rw [HZ8.out]) | fail)
        refine HLO.out.mono ?_
        rintro e w9 ⟨rfl, hr9, hb9⟩
        have HR9 := Lib.hid hr9
        have HB9 := Lib.hid hb9
        clear hr9 hb9
        go_wp2
        go_ret2
        refine ⟨HB8.out.trans (HB9.out.mono (by have := HB8.out.size; have := HMh.out; omega)), Or.inl ⟨HE.out, w7.heap.size, w8.heap.size, c, h, mb, ns, S, g, sz, d'.toList, rfl, by have := HBS.out; have := HMh.out; omega, ⟨HR9.out, ?_, HCK.out.below HB9.out, HNS.out, HMI.out, HOR.out HE.out⟩, HPM.out⟩⟩
        have := HCK.out.loc
        have := HCK.out.blk.lt
        omega
      · have e1 : sz < n := by
          rcases Nat.lt_or_ge sz n with q | q
          · exact q
          · exact absurd (hea.1 (heq.2 (by omega))) hE
        have hlt9 : (sz : Int) < (n : Int) := by omega
        have HE := Lib.hid hE
        clear hck hns hmi hb8 hD hsz hnl hle heq hea hE e1
        go_wp2_with (first | (at_len; refine wpList_len_own (H := Nat) _ rfl _ 93 rfl 9 92 Tryd.underlying93 ndElem mb n D rfl HD.out ?_; rw [HZ8.out]) | fail)
        go_wp2
        go_ret2
        exact ⟨HB8.out, Or.inr ⟨HE.out, rfl⟩⟩

end Go.Proofs.YtcbiiioglklpoaaDoor
