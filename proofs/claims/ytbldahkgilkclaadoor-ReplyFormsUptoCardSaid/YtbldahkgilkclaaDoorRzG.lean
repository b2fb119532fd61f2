/-
  The walk of bytes.IndexAny where the bytes that end a line are looked for, at eight bytes or fewer, two of them at the least. Conditions: the bytes lie in memory; the decoder's two tables hold what their own text lays. The walk of bytes.IndexAny where the bytes that end a line are looked for, at any bytes. Conditions: the bytes lie in memory; the decoder's two tables hold what their own text lays; the search's own measure holds a number.
-/
import Derived.Test.YtbldahkgilkclaaDoorRzD
import Derived.Lib.MapLaws
namespace Go.Proofs.YtbldahkgilkclaaDoor
open Go.RowKit

theorem u8_toNat (n : Nat) (h : n < 256) : (UInt8.ofNat n).toNat = n := by rw [UInt8.toNat_ofNat']; omega

/-- What the decoder tells of a byte of 128 or more. -/
structure Dec (l : List UInt8) (i r wd : Nat) : Prop where
  at_ : Lib.decodeGo ⟨(l.drop i).toArray⟩ = (r, wd)
  pos : 1 ≤ wd
  le : i + wd ≤ l.length
  big : 128 ≤ r
  most : r ≤ 1114111
  high : ∀ j, i ≤ j → j < i + wd → 128 ≤ (l.getD j 0).toNat
  two : r ≠ 65533 → 2 ≤ wd ∧ wd ≤ 4 ∧ (Utf8.encode r).size = wd ∧ ∃ x t, (Utf8.encode r).data.toList = x :: t ∧ 128 ≤ x.toNat

theorem dec_high (l : List UInt8) (i : Nat) (hi : i < l.length) (h : 128 ≤ (l.getD i 0).toNat) : ∃ r wd, Dec l i r wd := by
  have hg : ∀ k, ((l.drop i).getD k 0) = l.getD (i + k) 0 := fun k => by rw [List.getD_eq_getElem?_getD, List.getElem?_drop, ← List.getD_eq_getElem?_getD]
  have hd : Lib.decodeGo ⟨(l.drop i).toArray⟩ = Lib.decodeN ((l.drop i).length) (l.getD i 0).toNat (l.getD (i + 1) 0).toNat (l.getD (i + 2) 0).toNat (l.getD (i + 3) 0).toNat := by
    unfold Lib.decodeGo
    rw [if_neg (by show ¬ (l.drop i).toArray.size = 0; rw [List.size_toArray, List.length_drop]; omega), Lib.decode_N]
    show Lib.decodeN ((l.drop i).length - 0) ((l.drop i).getD 0 0).toNat ((l.drop i).getD (0 + 1) 0).toNat ((l.drop i).getD (0 + 2) 0).toNat ((l.drop i).getD (0 + 3) 0).toNat = _
    rw [hg, hg, hg, hg]
    simp only [Nat.add_zero, Nat.zero_add, Nat.sub_zero]
  rw [List.length_drop] at hd
  have h0 := UInt8.toNat_lt (l.getD i 0)
  have h1 := UInt8.toNat_lt (l.getD (i + 1) 0)
  have h2 := UInt8.toNat_lt (l.getD (i + 2) 0)
  have h3 := UInt8.toNat_lt (l.getD (i + 3) 0)
  have hj1 : ∀ {w : Nat} {P : Nat → Prop}, (∀ k, k < w → P (i + k)) → ∀ j, i ≤ j → j < i + w → P j := fun hp j ha hb => by have := hp (j - i) (by omega); rwa [show i + (j - i) = j from by omega] at this
  rcases Lib.decodeN_shape (l.length - i) (l.getD i 0).toNat (l.getD (i + 1) 0).toNat (l.getD (i + 2) 0).toNat (l.getD (i + 3) 0).toNat with ⟨g, _⟩ | ⟨g0, g1, g2, g3, g⟩ | ⟨g0, g1, g2, g3, g4, g5, g⟩ | ⟨g0, g1, g2, g3, g4, g5, g6, g⟩ | g
  · omega
  · refine ⟨_, _, hd.trans g, by omega, by omega, by omega, by omega, hj1 fun k hk => ?_, fun _ => ⟨by omega, by omega, ?_⟩⟩
    · obtain rfl | rfl : k = 0 ∨ k = 1 := by omega
      · exact h
      · omega
    · have hlt : (l.getD i 0).toNat % 32 * 64 + (l.getD (i + 1) 0).toNat % 64 < 2048 := by omega
      generalize (l.getD i 0).toNat % 32 * 64 + (l.getD (i + 1) 0).toNat % 64 = r at *
      have hv : Utf8.valid (r : Int) = true := by simp [Utf8.valid]; omega
      unfold Utf8.encode
      simp only [hv, if_true, Int.toNat_natCast]
      rw [if_neg (by omega), if_pos (by omega)]
      exact ⟨rfl, _, _, rfl, by rw [u8_toNat _ (by omega)]; omega⟩
  · refine ⟨_, _, hd.trans g, by omega, by omega, by omega, by omega, hj1 fun k hk => ?_, fun _ => ⟨by omega, by omega, ?_⟩⟩
    · obtain rfl | rfl | rfl : k = 0 ∨ k = 1 ∨ k = 2 := by omega
      · exact h
      · omega
      · omega
    · have hlt : (l.getD i 0).toNat % 16 * 4096 + (l.getD (i + 1) 0).toNat % 64 * 64 + (l.getD (i + 2) 0).toNat % 64 < 65536 := by omega
      generalize (l.getD i 0).toNat % 16 * 4096 + (l.getD (i + 1) 0).toNat % 64 * 64 + (l.getD (i + 2) 0).toNat % 64 = r at *
      have hv : Utf8.valid (r : Int) = true := by simp [Utf8.valid]; omega
      unfold Utf8.encode
      simp only [hv, if_true, Int.toNat_natCast]
      rw [if_neg (by omega), if_neg (by omega), if_pos (by omega)]
      exact ⟨rfl, _, _, rfl, by rw [u8_toNat _ (by omega)]; omega⟩
  · refine ⟨_, _, hd.trans g, by omega, by omega, by omega, by omega, hj1 fun k hk => ?_, fun _ => ⟨by omega, by omega, ?_⟩⟩
    · obtain rfl | rfl | rfl | rfl : k = 0 ∨ k = 1 ∨ k = 2 ∨ k = 3 := by omega
      · exact h
      · omega
      · omega
      · omega
    · generalize (l.getD i 0).toNat % 8 * 262144 + (l.getD (i + 1) 0).toNat % 64 * 4096 + (l.getD (i + 2) 0).toNat % 64 * 64 + (l.getD (i + 3) 0).toNat % 64 = r at *
      have hv : Utf8.valid (r : Int) = true := by simp [Utf8.valid]; omega
      unfold Utf8.encode
      simp only [hv, if_true, Int.toNat_natCast]
      rw [if_neg (by omega), if_neg (by omega), if_neg (by omega)]
      exact ⟨rfl, _, _, rfl, by rw [u8_toNat _ (by omega)]; omega⟩
  · exact ⟨_, _, hd.trans g, by omega, by omega, by omega, by omega, fun j a b => by obtain rfl : j = i := by omega
                                                                                     exact h, fun q => absurd rfl q⟩

theorem noAny_high {l : List UInt8} {i wd : Nat} (h : Lib.NoAny l crlf i) (hh : ∀ j, i ≤ j → j < i + wd → 128 ≤ (l.getD j 0).toNat) : Lib.NoAny l crlf (i + wd) := by
  intro j x hj hx
  rcases Nat.lt_or_ge j i with g | g
  · exact h j x g hx
  · have := hh j g hj
    rw [List.getD_eq_getElem?_getD, hx] at this
    cases hq : crlf.contains x with
    | false => rfl
    | true =>
      exfalso
      simp [crlf] at hq
      rcases hq with hq | hq <;> (subst hq; exact absurd this (by decide))

theorem idx_long {t : List UInt8} (h : 2 < t.length) : Lib.index crlf t = -1 := by
  refine Lib.index_none ?_
  intro j _
  cases ho : Lib.occAt crlf t j with
  | false => rfl
  | true =>
    exfalso
    rcases Lib.occAt_room ho with g | g
    · simp [crlf] at g; omega
    · rw [g] at h; simp at h

/-- What the search leans on: the decoder's tables, and that its own measure is a number. -/
structure Tabs8 (w : World) : Prop where
  utf8 : Lib.Utf8Tabs 2 3 w
  max : ∃ m : Int, w.cell? ⟨0, 0, none⟩ = some (.int .i64 m)
  lt : 2 < w.heap.size ∧ 3 < w.heap.size

theorem Tabs8.below {B : Nat} {w w' : World} (h : Tabs8 w) (hb : Below B w w') (hB : 6 ≤ B) : Tabs8 w' := by
  obtain ⟨⟨h1, h2⟩, ⟨m, h3⟩, h4, h5⟩ := h
  refine ⟨⟨fun c hc => ?_, fun i hi => ⟨?_, ?_⟩⟩, ⟨m, ?_⟩, Nat.lt_of_lt_of_le h4 hb.size, Nat.lt_of_lt_of_le h5 hb.size⟩
  · exact (hb.cell (p := ⟨2, c, none⟩) (by show (2 : Nat) < B; omega)).trans (h1 c hc)
  · exact (hb.cell (p := ⟨3, 2 * i, none⟩) (by show (3 : Nat) < B; omega)).trans (h2 i hi).1
  · exact (hb.cell (p := ⟨3, 2 * i + 1, none⟩) (by show (3 : Nat) < B; omega)).trans (h2 i hi).2
  · exact (hb.cell (p := ⟨0, 0, none⟩) (by show (0 : Nat) < B; omega)).trans h3

theorem get_byte (l : List UInt8) (i j : Nat) : (⟨(l.drop i).toArray⟩ : ByteArray).get! j = l.getD (i + j) 0 := by
  show (l.drop i).toArray[j]! = _
  rw [Array.getElem!_eq_getD, Array.getD_eq_getD_getElem?, List.getElem?_toArray, List.getElem?_drop, List.getD_eq_getElem?_getD]
  rfl

theorem ddecode_high (b o cap : Nat) (l : List UInt8) (i r wd : Nat) (w : World) (hT : Tabs8 w) (hl : BytesAt w b o l) (hi : i < l.length) (hd : Dec l i r wd) :
    Calls Tryd.prog 65 #[.slice (some ⟨b, o + i, none⟩) (l.length - i) (cap - i)] w fun e w' => e = .returned (.tuple #[.int .i32 r, .int .i64 wd]) ∧ Below w.heap.size w w' := by
  have h := Tryd.utf8_DecodeRune ⟨(l.drop i).toArray⟩ b (o + i) (cap - i) w hT.utf8 (fun j hj => by
    have hj : j < (l.drop i).toArray.size := hj
    rw [List.size_toArray, List.length_drop] at hj
    rw [get_byte, Nat.add_assoc]
    exact hl (i + j) (by omega))
  rw [hd.at_, show (⟨(l.drop i).toArray⟩ : ByteArray).size = l.length - i from by show (l.drop i).toArray.size = _; rw [List.size_toArray, List.length_drop]] at h
  exact h

theorem run_is (t : ByteArray) (m : Int) (w : World) (hm : w.cell? ⟨0, 0, none⟩ = some (.int .i64 m)) (h2 : 2 < t.size) (hb : (t.size : Int) ≤ m) :
    (callFunc 59 #[.string ⟨#[13, 10]⟩, .string t]).run Tryd.prog w = .ok (.value (.int .i64 (-1))) w := by
  rw [run_callFunc_extern Tryd.func59 (by kernel_rfl) (by kernel_rfl) (by kernel_rfl) (e := Extern.BytealgIndex.index) (by kernel_rfl), Lib.run_indexString _ _ _ 0 m (by kernel_rfl) hm (by omega) hb (by decide), show Lib.index (⟨#[13, 10]⟩ : ByteArray).data.toList t.data.toList = -1 from idx_long (by rw [← Lib.size_eq]; exact h2)]
  rfl

set_option maxRecDepth 1000000 in
set_option maxHeartbeats 8000000 in
theorem bindex_short (b o cap : Nat) (l : List UInt8) (w : World) (hb : b < w.heap.size) (h6 : 6 ≤ w.heap.size) (hl : BytesAt w b o l) (hn1 : l.length ≠ 1) (h8 : l.length ≤ 8) (hcap : l.length ≤ cap) (hT : Tabs8 w) :
    Calls Tryd.prog 50 #[.slice (some ⟨b, o, none⟩) l.length cap, .string ⟨#[13, 10]⟩] w (CrPost l w) := by
  have h8z : decide ((8 : Int) < (l.length : Int)) = false := decide_eq_false (by omega)
  have hn1' : ((l.length : Int) == 1) = false := beq_eq_false_iff_ne.2 (by omega)
  have HL := Lib.hid hl
  have HTT := Lib.hid hT
  clear hl hT
  go_enter Tryd.func50, Tryd.ntmps50
  go_wp2_with (first
    | (go_at_call 62; refine (bshould _ _).mono ?_; rintro e w' ⟨rfl, hw⟩; rw [hw, h8z]))
  go_loopw [12] (fun x wr => ∃ i : Nat, x = .int .i64 i ∧ i ≤ l.length ∧ Below w.heap.size w wr ∧ Lib.NoAny l crlf i) (fun x _ => l.length - (intOf x).toNat)
  case atStart => exact ⟨0, rfl, Nat.zero_le _, Below.refl _ _, Lib.NoAny.zero _ _⟩
  case round =>
    obtain ⟨i, rfl, hi, hbw, hno⟩ := hrel
    have HN := Lib.hid hno
    have HB := Lib.hid hbw
    clear hno hbw
    by_cases hil : i = l.length
    · subst hil
      have hiz : ¬ ((l.length : Int) < (l.length : Int)) := by omega
      go_wp2
      go_ret
      exact ⟨by rw [Lib.indexAny_none HN.out]; rfl, HB.out⟩
    · have hil' : i < l.length := by omega
      have hiz : (i : Int) < (l.length : Int) := by omega
      have hcell := (HL.out.below HB.out hb) i hil'
      obtain ⟨x, hx⟩ : ∃ x, l.getD i 0 = x := ⟨_, rfl⟩
      have Hx : Hid (l[i]? = some x) := by rw [← hx]; unfold Hid; rw [List.getD_eq_getElem?_getD, List.getElem?_eq_getElem hil']; rfl
      have HXG := Lib.hid hx
      rw [hx] at hcell
      clear hx
      have hx256 := UInt8.toNat_lt x
      obtain ⟨d, hd⟩ : ∃ d, x.toNat = d := ⟨_, rfl⟩
      have hdc : ((d : Int)).toNat.toUInt8 = x := by rw [← hd]; simp
      rw [hd] at hcell hx256
      have HDC := Lib.hid hdc
      have HD := Lib.hid hd
      clear hd hdc
      by_cases h128 : d < 128
      · have hdz : ((d : Int) < 128) := by omega
        have h76 := run_ib d
        rw [HDC.out] at h76
        obtain ⟨X, hX⟩ : ∃ X, Lib.indexByte crlf x = X := ⟨_, rfl⟩
        have HIN : Hid (decide ((0 : Int) ≤ X) = crlf.contains x) := by rw [← hX]; exact crlf_has x
        rw [hX] at h76
        clear hX
        cases hin : crlf.contains x with
        | true =>
          rw [hin] at HIN
          have hx0 : (0 : Int) ≤ X := of_decide_eq_true HIN.out
          go_wp2
          go_ret
          exact ⟨by rw [Lib.indexAny_hit HN.out Hx.out hin]; rfl, HB.out⟩
        | false =>
          rw [hin] at HIN
          have hx0 : ¬ ((0 : Int) ≤ X) := of_decide_eq_false HIN.out
          go_wp2
          go_roundw
          case rel => exact ⟨i + 1, by go_num, by omega, HB.out, HN.out.succ Hx.out hin⟩
          case measure => simp only [intOf]; omega
      · have hdz : ¬ ((d : Int) < 128) := by omega
        have hd256 : (d : Int) < 256 := by omega
        obtain ⟨r, wd, hdec⟩ := dec_high l i hil' (by rw [HXG.out, HD.out]; omega)
        have hcap2 : cap ≠ i := by omega
        have HDR := Lib.hid (ddecode_high b o cap l i r wd wr (HTT.out.below HB.out h6) (HL.out.below HB.out hb) hil' hdec)
        have hr128 := hdec.big
        have hrm := hdec.most
        have hw1 := hdec.pos
        have hwl := hdec.le
        have HN2 := Lib.hid (noAny_high HN.out hdec.high)
        have H2 := Lib.hid hdec.two
        clear hdec
        go_wp2_with fail
        refine HDR.out.mono ?_
        rintro e w2 ⟨rfl, hb2⟩
        have HB2 := Lib.hid (HB.out.trans (hb2.mono HB.out.size))
        clear hb2
        by_cases hr : r = 65533
        · subst hr
          go_wp2
          go_loopg [15] 2 (fun g _ wx => ∃ k : Nat, k + g = 2 ∧ wx = w2.iter ⟨#[13, 10]⟩ k)
          case atStart => exact ⟨0, by omega, rfl⟩
          case round =>
            obtain ⟨k, hkg, rfl⟩ := hrel
            cases gk with
            | zero =>
              obtain rfl : k = 2 := by omega
              have hnx := run_next_end (P := Tryd.prog) w2 ⟨#[13, 10]⟩ 2
              go_wp2
              go_roundw
              case rel => exact ⟨i + wd, by go_num, by omega, HB2.out.alloc HB2.out.size _, HN2.out⟩
              case measure => simp only [intOf]; omega
            | succ g =>
              obtain rfl | rfl : k = 0 ∨ k = 1 := by omega
              · have hnx := fun ty => run_next_ascii (P := Tryd.prog) w2 ⟨#[13, 10]⟩ 0 ty (by decide) (by decide)
                go_wp2
                go_roundg g
                case measure => omega
                case rel => exact ⟨1, by omega, rfl⟩
              · have hnx := fun ty => run_next_ascii (P := Tryd.prog) w2 ⟨#[13, 10]⟩ 1 ty (by decide) (by decide)
                go_wp2
                go_roundg g
                case measure => omega
                case rel => exact ⟨2, by omega, rfl⟩
        · obtain ⟨h2, h4, hE, y, t, hy, hy128⟩ := H2.out hr
          have hrn : ((r : Int) != 65533) = true := by rw [bne_iff_ne]; omega
          obtain ⟨E, hEE⟩ : ∃ E, Utf8.encode r = E := ⟨_, rfl⟩
          have hcv : ∀ w, (convert 21 9 (.int .i32 (r : Int))).run Tryd.prog w = .ok (.string E) w := fun w => by rw [← hEE]; simp [go_sem]
          rw [hEE] at hE hy
          have HCV := Lib.hid hcv
          clear hEE
          by_cases hw2 : wd = 2
          · subst hw2
            have hne : (([13, 10] : List UInt8) == E.toList) = false := by
              rw [beq_eq_false_iff_ne, Lib.toList_data, hy]
              intro q
              have : y = 13 := by injection q with a _; exact a.symm
              rw [this] at hy128
              exact absurd hy128 (by decide)
            clear hE hy
            go_wp2
            go_roundw
            case rel => exact ⟨i + 2, by go_num, by omega, HB2.out, HN2.out⟩
            case measure => simp only [intOf]; omega
          · have hw2' : ((2 : Int) == (wd : Int)) = false := by rw [beq_eq_false_iff_ne]; omega
            obtain ⟨m, hm⟩ := (HTT.out.below HB2.out h6).max
            by_cases hmw : (wd : Int) ≤ m
            · have his := run_is E m w2 hm (by omega) (by omega)
              go_wp2
              go_roundw
              case rel => exact ⟨i + wd, by go_num, by omega, HB2.out, HN2.out⟩
              case measure => simp only [intOf]; omega
            · have hmw' : ¬ ((wd : Int) ≤ m) := hmw
              have q13 : ((r : Int) == ((⟨#[13, 10]⟩ : ByteArray)[0].toNat : Int)) = false := by rw [beq_eq_false_iff_ne]; show (r : Int) ≠ 13; omega
              have q10 : ((r : Int) == ((⟨#[13, 10]⟩ : ByteArray)[1].toNat : Int)) = false := by rw [beq_eq_false_iff_ne]; show (r : Int) ≠ 10; omega
              go_wp2
              go_loopg [15] 2 (fun g _ wx => ∃ k : Nat, k + g = 2 ∧ wx = w2.iter ⟨#[13, 10]⟩ k)
              case atStart => exact ⟨0, by omega, rfl⟩
              case round =>
                obtain ⟨k, hkg, rfl⟩ := hrel
                cases gk with
                | zero =>
                  obtain rfl : k = 2 := by omega
                  have hnx := run_next_end (P := Tryd.prog) w2 ⟨#[13, 10]⟩ 2
                  go_wp2
                  go_roundw
                  case rel => exact ⟨i + wd, by go_num, by omega, HB2.out.alloc HB2.out.size _, HN2.out⟩
                  case measure => simp only [intOf]; omega
                | succ g =>
                  obtain rfl | rfl : k = 0 ∨ k = 1 := by omega
                  · have hnx := fun ty => run_next_ascii (P := Tryd.prog) w2 ⟨#[13, 10]⟩ 0 ty (by decide) (by decide)
                    go_wp2
                    go_roundg g
                    case measure => omega
                    case rel => exact ⟨1, by omega, rfl⟩
                  · have hnx := fun ty => run_next_ascii (P := Tryd.prog) w2 ⟨#[13, 10]⟩ 1 ty (by decide) (by decide)
                    go_wp2
                    go_roundg g
                    case measure => omega
                    case rel => exact ⟨2, by omega, rfl⟩

end Go.Proofs.YtbldahkgilkclaaDoor
