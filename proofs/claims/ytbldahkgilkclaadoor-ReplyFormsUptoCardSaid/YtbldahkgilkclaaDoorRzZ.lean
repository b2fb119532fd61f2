/-
  The walk of strings.IndexAny and strings.ContainsAny where the bytes that end a line are looked for: at any text of at most 65536 bytes. The walk of strings.IndexAny and strings.ContainsAny where the bytes that end a line are looked for: at any text.
-/
import Derived.Test.YtbldahkgilkclaaDoorRzG
import Derived.Laws.RangeAny
import Derived.WalkMore
import Derived.Deep.RegionWith
import Derived.Lib.OthersKept
namespace Go.Proofs.YtbldahkgilkclaaDoor
open Go.RowKit

theorem sasciiInfo : (Tryd.prog.info? 74).map (fun i => (i.zero, i.size)) = some (some (.agg (Array.replicate 256 (.bool false))), 256) := by kernel_rfl

theorem enc_two {r : Nat} (h : 128 ≤ r) (hs : (Utf8.encode (r : Int)).size = 2) : ∃ a b : UInt8, Utf8.encode (r : Int) = ⟨#[a, b]⟩ ∧ 128 ≤ b.toNat := by
  unfold Utf8.encode at hs ⊢
  by_cases hv : Utf8.valid (r : Int) = true
  · simp only [hv, if_true, Int.toNat_natCast] at hs ⊢
    rw [if_neg (by omega)] at hs ⊢
    by_cases h2 : r < 2048
    · rw [if_pos (by omega)]
      exact ⟨_, _, rfl, by rw [u8_toNat _ (by omega)]; omega⟩
    · rw [if_neg (by omega)] at hs
      exfalso
      split at hs
      · exact absurd (show (3 : Nat) = 2 from hs) (by decide)
      · exact absurd (show (4 : Nat) = 2 from hs) (by decide)
  · exfalso
    simp only [hv] at hs
    exact absurd (show (3 : Nat) = 2 from hs) (by decide)

def RuPost (w : World) (e : Ending) (w' : World) : Prop := e = .returned (.int .i64 (-1)) ∧ Below w.heap.size w w'

set_option maxRecDepth 1000000 in
set_option maxHeartbeats 8000000 in
theorem srune_bad (w : World) : Calls Tryd.prog 45 #[.string ⟨#[13, 10]⟩, .int .i32 65533] w (RuPost w) := by
  go_enter Tryd.func45, Tryd.ntmps45
  go_wp2
  go_loopg [5] 2 (fun g _ wx => ∃ k : Nat, k + g = 2 ∧ wx = w.iter ⟨#[13, 10]⟩ k)
  case atStart => exact ⟨0, by omega, rfl⟩
  case round =>
    obtain ⟨k, hkg, rfl⟩ := hrel
    cases gk with
    | zero =>
      obtain rfl : k = 2 := by omega
      have hnx := run_next_end (P := Tryd.prog) w ⟨#[13, 10]⟩ 2
      go_wp2
      go_ret
      exact ⟨rfl, (Below.refl _ _).alloc (Nat.le_refl _) _⟩
    | succ g =>
      obtain rfl | rfl : k = 0 ∨ k = 1 := by omega
      · have hnx := fun ty => run_next_ascii (P := Tryd.prog) w ⟨#[13, 10]⟩ 0 ty (by decide) (by decide)
        go_wp2
        go_roundg g
        case measure => omega
        case rel => exact ⟨1, by omega, rfl⟩
      · have hnx := fun ty => run_next_ascii (P := Tryd.prog) w ⟨#[13, 10]⟩ 1 ty (by decide) (by decide)
        go_wp2
        go_roundg g
        case measure => omega
        case rel => exact ⟨2, by omega, rfl⟩

set_option maxRecDepth 1000000 in
set_option maxHeartbeats 8000000 in
theorem srune_high (r : Nat) (w : World) (h : 128 ≤ r) (hm : r ≤ 1114111) (hne : r ≠ 65533) (hE : 2 ≤ (Utf8.encode (r : Int)).size ∧ (Utf8.encode (r : Int)).size ≤ 4) :
    Calls Tryd.prog 45 #[.string ⟨#[13, 10]⟩, .int .i32 r] w (RuPost w) := by
  have hrn : ((r : Int) == 65533) = false := by rw [beq_eq_false_iff_ne]; omega
  have h128 : ¬ ((r : Int) < 128) := by omega
  have h0 : (0 : Int) ≤ (r : Int) := by omega
  obtain ⟨E, hEE⟩ : ∃ E, Utf8.encode (r : Int) = E := ⟨_, rfl⟩
  have hcv : ∀ w, (convert 21 9 (.int .i32 (r : Int))).run Tryd.prog w = .ok (.string E) w := fun w => by rw [← hEE]; simp [go_sem]
  have hlast : E.size = 2 → ∃ a b : UInt8, E = ⟨#[a, b]⟩ ∧ 128 ≤ b.toNat := fun q => by
    rw [← hEE] at q ⊢
    exact enc_two h q
  rw [hEE] at hE
  clear hEE
  cases hv : Lib.validRune (r : Int) with
  | false =>
    go_enter Tryd.func45, Tryd.ntmps45
    go_wp2_with (go_at_call 57; refine (Tryd.utf8_ValidRune _ _).mono ?_; rintro e w' ⟨rfl, hw⟩; rw [hw, hv])
    go_ret
    exact ⟨rfl, Below.refl _ _⟩
  | true =>
    by_cases hw2 : E.size = 2
    · obtain ⟨a, b, rfl, hb⟩ := hlast hw2
      clear hlast hw2 hE
      have hb10 : (((⟨#[13, 10]⟩ : ByteArray)[1].toNat : Int) != (((⟨#[a, b]⟩ : ByteArray)[1]'(show 1 < 2 from by decide)).toNat : Int)) = true := by rw [bne_iff_ne]; show ((10 : Nat) : Int) ≠ (b.toNat : Int); omega
      go_enter Tryd.func45, Tryd.ntmps45
      go_wp2_with (first
        | (go_at_call 57; refine (Tryd.utf8_ValidRune _ _).mono ?_; rintro e w' ⟨rfl, hw⟩; rw [hw, hv])
        | (go_at_call 38; refine (Tryd.strings_IndexByte _ _ _).mono ?_; rintro e w' ⟨rfl, hw⟩; rw [hw]))
      go_step3
      go_wp2
      go_loopg [9] 0 (fun g x wx => x = .int .i64 1 ∧ wx = w ∧ g = 0)
      case atStart => exact ⟨rfl, rfl, rfl⟩
      case round =>
        obtain ⟨rfl, rfl, rfl⟩ := hrel
        go_wp2
        go_step3
        go_wp2
        go_region
        go_wp2
        go_region_with (go_at_call 38; refine (Tryd.strings_IndexByte _ _ _).mono ?_; rintro e w' ⟨rfl, hw⟩; rw [hw, show ∀ c : UInt8, Lib.indexByte ByteArray.empty.data.toList c = -1 from fun _ => rfl])
        go_wp2
        all_goals
          rw [Exit.noGoto_ret]
          show Exit.noGoto (Exit.inBlock 0 (bodyPost _ _ _)) .ret _ _
          rw [Exit.noGoto_ret]
          go_ret
          exact ⟨rfl, (Below.refl _ _).drew.drew⟩
    · have h2 : ¬ ((E.size : Int) - 1 < 2) := by omega
      clear hlast
      go_enter Tryd.func45, Tryd.ntmps45
      go_wp2_with (go_at_call 57; refine (Tryd.utf8_ValidRune _ _).mono ?_; rintro e w' ⟨rfl, hw⟩; rw [hw, hv])
      go_step3
      go_wp2
      go_loopg [9] 0 (fun g x wx => x = .int .i64 (E.size - 1) ∧ wx = w ∧ g = 0)
      case atStart => exact ⟨rfl, rfl, rfl⟩
      case round =>
        obtain ⟨rfl, rfl, rfl⟩ := hrel
        go_wp2
        rw [Exit.noGoto_ret]
        go_ret
        exact ⟨rfl, Below.refl _ _⟩

theorem dec_str (s : ByteArray) (i : Nat) (hi : i < s.size) : Utf8.decode s i = Lib.decodeGo ⟨(s.data.toList.drop i).toArray⟩ := by
  have hl : s.data.toList.length = s.size := (Lib.size_eq s).symm
  unfold Lib.decodeGo
  rw [if_neg (by show ¬ (s.data.toList.drop i).toArray.size = 0; rw [List.size_toArray, List.length_drop]; omega), Lib.decode_N, Lib.decode_N]
  show Lib.decodeN (s.data.toList.length - i) _ _ _ _ = Lib.decodeN ((s.data.toList.drop i).length - 0) ((s.data.toList.drop i).getD 0 0).toNat ((s.data.toList.drop i).getD (0 + 1) 0).toNat ((s.data.toList.drop i).getD (0 + 2) 0).toNat ((s.data.toList.drop i).getD (0 + 3) 0).toNat
  have hg : ∀ k, ((s.data.toList.drop i).getD k 0) = s.data.toList.getD (i + k) 0 := fun k => by rw [List.getD_eq_getElem?_getD, List.getElem?_drop, ← List.getD_eq_getElem?_getD]
  rw [hg, hg, hg, hg, List.length_drop]
  rfl

theorem srune (r : Nat) (w : World) {l : List UInt8} {i wd : Nat} (hd : Dec l i r wd) : Calls Tryd.prog 45 #[.string ⟨#[13, 10]⟩, .int .i32 r] w (RuPost w) := by
  by_cases hr : r = 65533
  · subst hr; exact srune_bad w
  · obtain ⟨h2, h4, hE, _⟩ := hd.two hr
    exact srune_high r w hd.big hd.most hr ⟨by omega, by omega⟩

theorem iter_pos {w : World} {k p : Nat} {s : ByteArray} (h : w.heap[k]? = some (.stringIter s p)) : w.iterPos k = p := by simp [World.iterPos, h]

def SaPost (s : ByteArray) (w : World) (e : Ending) (w' : World) : Prop := e = .returned (.int .i64 (Lib.indexAny s.data.toList crlf)) ∧ Below w.heap.size w w'

set_option maxRecDepth 1000000 in
set_option maxHeartbeats 8000000 in
theorem sindex_short (s : ByteArray) (w : World) (h8 : s.size ≤ 8) :
    Calls Tryd.prog 36 #[.string s, .string ⟨#[13, 10]⟩] w (SaPost s w) := by
  have h8z : decide ((8 : Int) < (s.size : Int)) = false := decide_eq_false (by omega)
  have hl : s.data.toList.length = s.size := (Lib.size_eq s).symm
  have HL := Lib.hid hl
  clear hl
  go_enter Tryd.func36, Tryd.ntmps36
  go_wp2_with (go_at_call 46; refine (Tryd.strings_shouldUseASCIISet _ _).mono ?_; rintro e w' ⟨rfl, hw⟩; rw [hw, h8z])
  go_loopw [9] (fun _ wr => ∃ i : Nat, i ≤ s.size ∧ Below w.heap.size w wr ∧ wr.heap[w.heap.size]? = some (.stringIter s i) ∧ Lib.NoAny s.data.toList crlf i) (fun _ wr => s.size - wr.iterPos w.heap.size)
  case atStart => exact ⟨0, Nat.zero_le _, (Below.refl _ _).alloc (Nat.le_refl _) _, World.iter_heap w s 0, Lib.NoAny.zero _ _⟩
  case round =>
    obtain ⟨i, hi, hbw, hit, hno⟩ := hrel
    have hpos0 := iter_pos hit
    have HN := Lib.hid hno
    have HB := Lib.hid hbw
    clear hno hbw
    by_cases hil : i = s.size
    · subst hil
      have hnx : ∀ ty, (Instr.next (.pointer (some ⟨w.heap.size, 0, none⟩)) true ty).run Tryd.prog wr = _ := fun ty => Lib.run_next_end_at wr w.heap.size s s.size ty hit (by omega)
      go_wp2
      go_ret
      exact ⟨by rw [Lib.indexAny_none (by rw [HL.out]; exact HN.out)]; rfl, HB.out⟩
    · have hil' : i < s.size := by omega
      obtain ⟨x, hx⟩ : ∃ x : UInt8, s[i]'hil' = x := ⟨_, rfl⟩
      have Hx : Hid (s.data.toList[i]? = some x) := by rw [← hx]; exact Lib.data_getElem? s i hil'
      by_cases h128 : x.toNat < 128
      · have hnx : ∀ ty, (Instr.next (.pointer (some ⟨w.heap.size, 0, none⟩)) true ty).run Tryd.prog wr = _ := fun ty => Lib.run_next_ascii_at wr w.heap.size s i ty hit hil' (by rw [hx]; exact h128)
        rw [hx] at hnx
        have HIT := Lib.hid (Lib.iterAt_heap wr w.heap.size s i (i + 1) hit)
        have HB2 := Lib.hid (Lib.below_iterAt HB.out (k := w.heap.size) (Nat.le_refl _) s (i + 1))
        obtain ⟨W1, hW1⟩ : ∃ W1, wr.iterAt w.heap.size s (i + 1) = W1 := ⟨_, rfl⟩
        rw [hW1] at hnx HIT HB2
        have hback : ((x.toNat : Int)).toNat.toUInt8 = x := by simp
        obtain ⟨X, hX⟩ : ∃ X, Lib.indexByte crlf x = X := ⟨_, rfl⟩
        have HX := Lib.hid hX
        have HIN : Hid (decide ((0 : Int) ≤ X) = crlf.contains x) := by rw [← hX]; exact crlf_has x
        clear hX hx hit hW1
        cases hin : crlf.contains x with
        | true =>
          rw [hin] at HIN
          have hx0 : (0 : Int) ≤ X := of_decide_eq_true HIN.out
          go_wp2_with (go_at_call 45; refine (Tryd.strings_IndexRune_ascii _ _ _ (by omega) (by omega)).mono ?_; rintro e w' ⟨rfl, hw⟩; rw [hw, hback, show Lib.indexByte (⟨#[13, 10]⟩ : ByteArray).data.toList x = X from HX.out])
          go_ret
          exact ⟨by rw [Lib.indexAny_hit HN.out Hx.out hin]; rfl, HB2.out⟩
        | false =>
          rw [hin] at HIN
          have hx0 : ¬ ((0 : Int) ≤ X) := of_decide_eq_false HIN.out
          go_wp2_with (go_at_call 45; refine (Tryd.strings_IndexRune_ascii _ _ _ (by omega) (by omega)).mono ?_; rintro e w' ⟨rfl, hw⟩; rw [hw, hback, show Lib.indexByte (⟨#[13, 10]⟩ : ByteArray).data.toList x = X from HX.out])
          go_roundw
          case rel => exact ⟨i + 1, by omega, HB2.out, HIT.out, HN.out.succ Hx.out hin⟩
          case measure => rw [iter_pos HIT.out, hpos0]; omega
      · obtain ⟨r, wd, hdec⟩ := dec_high s.data.toList i (by rw [HL.out]; exact hil') (by rw [List.getD_eq_getElem?_getD, Hx.out]; show 128 ≤ x.toNat; omega)
        have hds := dec_str s i hil'
        rw [hdec.at_] at hds
        have hnx : ∀ ty, (Instr.next (.pointer (some ⟨w.heap.size, 0, none⟩)) true ty).run Tryd.prog wr = _ := fun ty => Lib.run_next_any_at wr w.heap.size s i ty hit hil'
        rw [hds] at hnx
        have HIT := Lib.hid (Lib.iterAt_heap wr w.heap.size s i (i + wd) hit)
        have HB2 := Lib.hid (Lib.below_iterAt HB.out (k := w.heap.size) (Nat.le_refl _) s (i + wd))
        obtain ⟨W1, hW1⟩ : ∃ W1, wr.iterAt w.heap.size s (i + wd) = W1 := ⟨_, rfl⟩
        rw [show (r, wd).2 = wd from rfl, show (r, wd).1 = r from rfl] at hnx
        rw [hW1] at hnx HIT HB2
        have HS := Lib.hid (srune r W1 hdec)
        have hw1 := hdec.pos
        have hwl := hdec.le
        rw [HL.out] at hwl
        have HN2 := Lib.hid (noAny_high HN.out hdec.high)
        clear hdec hds hx hit hW1
        go_wp2_with fail
        refine HS.out.mono ?_
        rintro e w2 ⟨rfl, hb2⟩
        have hlt : w.heap.size < W1.heap.size := (Array.getElem?_eq_some_iff.1 HIT.out).1
        have HB3 := Lib.hid (HB2.out.trans (hb2.mono HB2.out.size))
        have HIT2 := Lib.hid ((hb2.block w.heap.size hlt).trans HIT.out)
        clear hb2
        go_wp2
        go_roundw
        case rel => exact ⟨i + wd, by omega, HB3.out, HIT2.out, HN2.out⟩
        case measure => rw [iter_pos HIT2.out, hpos0]; omega

theorem crlf_two : (⟨#[13, 10]⟩ : ByteArray).data.toList = crlf := rfl

theorem sindex_any (s : ByteArray) (w : World) (hs : s.size ≤ 65536) : Calls Tryd.prog 36 #[.string s, .string ⟨#[13, 10]⟩] w (SaPost s w) := by
  by_cases h8 : s.size ≤ 8
  · exact sindex_short s w h8
  · refine (Tryd.strings_IndexAny_long (fun w => (zero_of_info sasciiInfo).1 w) s ⟨#[13, 10]⟩ w (by decide) (by omega) (by omega) (by decide) (fun j b hb => ?_)).mono ?_
    · have : b ∈ crlf := List.mem_of_getElem? hb
      simp [crlf] at this
      rcases this with rfl | rfl <;> decide
    · rintro e w' ⟨rfl, rfl⟩
      exact ⟨rfl, ((Below.refl _ _).alloc (Nat.le_refl _) _).alloc (by simp) _⟩

theorem scontains_any (s : ByteArray) (w : World) (hs : s.size ≤ 65536) : Calls Tryd.prog 28 #[.string s, .string ⟨#[13, 10]⟩] w fun e w' => e = .returned (.bool (decide (0 ≤ Lib.indexAny s.data.toList crlf))) ∧ Below w.heap.size w w' := by
  have HS := Lib.hid (sindex_any s w hs)
  go_enter Tryd.func28, Tryd.ntmps28
  go_wp2_with fail
  refine HS.out.mono ?_
  rintro e w' ⟨rfl, hb⟩
  have HB := Lib.hid hb
  clear hb
  go_wp2
  go_ret
  exact ⟨rfl, HB.out⟩

end Go.Proofs.YtbldahkgilkclaaDoor
