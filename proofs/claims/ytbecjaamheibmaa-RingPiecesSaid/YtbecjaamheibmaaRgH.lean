/-
  Package ring: the walks of New, Feed, Fork, Follow. Conditions: the ring lies in memory as typed; what is fed lies elsewhere.
-/
import Derived.Test.YtbecjaamheibmaaRgG
namespace Go.Proofs.Ytbecjaamheibmaa
open Go.RowKit

/-- What Feed, Fork, Follow answer and make. -/
def fdE (h : Hst) (n : Nat) : Int := if 1125899906842624 - h.off < (n : Int) then 2 else 0
def fdH (h : Hst) (n : Nat) : Hst := if 1125899906842624 - h.off < (n : Int) then h else { h with off := h.off + n }
def fdX (h : Hst) (X b : Tx) : Tx := if 1125899906842624 - h.off < (b.length : Int) then X else X ++ b
def fkE (h : Hst) (id : Int) : Int := if id = 0 ∨ id = h.id then 190 else 0
def fkH (h : Hst) (id : Int) : Hst := if id = 0 ∨ id = h.id then h else ⟨id, h.off, h.id, h.off⟩
def flE (id o : Int) : Int := if id = 0 ∨ o < 0 ∨ 1125899906842624 < o then 190 else 0
def flH (h : Hst) (id o : Int) : Hst := if id = 0 ∨ o < 0 ∨ 1125899906842624 < o then h else ⟨id, o, 0, 0⟩
def flX (X : Tx) (id o : Int) : Tx := if id = 0 ∨ o < 0 ∨ 1125899906842624 < o then X else []

/-- A ring that an act has led on. -/
def RgTo (w : World) (base : Nat) (F : Nat → Prop) (p s : Nat) (h : Hst) (X : Tx) (w' : World) : Prop := ∃ F', RgOn w' base F' p s h X ∧ Chg F F' w w'

section
variable {w w' : World} {base p s : Nat} {F : Nat → Prop} {h : Hst} {X : Tx}

set_option maxRecDepth 100000 in
set_option maxHeartbeats 8000000 in
theorem new_yes (w : World) (s : Nat) (id : Int) (h1 : 0 < s) (h2 : s ≤ 16777216) (h3 : 0 < id) (h4 : id ≤ 18446744073709551615) :
    Calls Try.prog 9 #[.int .i64 s, .int .u64 id] w fun e w' => e = .returned (.tuple #[.pointer (some ⟨w.heap.size, 0, none⟩), .int .i64 0]) ∧ RgOn w' w.heap.size (· = w.heap.size) w.heap.size s ⟨id, 0, 0, 0⟩ [] ∧ Below w.heap.size w w' := by
  have hs1 : ¬ (s : Int) < 1 := by omega
  have hs1b : decide ((s : Int) < 1) = false := by simpa using hs1
  have hs2 : ¬ (16777216 : Int) < (s : Int) := by omega
  have hs2b : decide ((16777216 : Int) < (s : Int)) = false := by simpa using hs2
  have hid : ¬ id = 0 := by omega
  have hidb : (id == 0) = false := by simpa using hid
  have HS : Hid (0 < s ∧ s ≤ 16777216 ∧ 0 < id) := ⟨h1, h2, h3⟩
  clear h1 h2 h3
  go_enter Try.func9, Try.ntmps9
  go_wp2
  go_ret2
  have hr : (w.alloc (.cells #[.pointer (some ⟨w.heap.size, 0, none⟩), .int .u64 id, .int .i64 0, .int .u64 0, .int .i64 0, .int .i64 (s : Int), .int .i64 0, .slice none 0 0] 67)).rowIs w.heap.size 67 8 (rgV w.heap.size ⟨id, 0, 0, 0⟩ s ((0 : Nat) : Int) (slV 0 0 0)) := by
    refine World.rowIs_alloc w _ _ _ (fun i hi => ?_)
    have hi : i < 8 := hi
    rcases (by omega : i = 0 ∨ i = 1 ∨ i = 2 ∨ i = 3 ∨ i = 4 ∨ i = 5 ∨ i = 6 ∨ i = 7) with rfl | rfl | rfl | rfl | rfl | rfl | rfl | rfl <;> rfl
  refine ⟨rfl, ⟨⟨fun k hk => ?_, rfl, Nat.le_refl _, 0, 0, fun _ => 0, hr, fun h0 => absurd h0 (Nat.lt_irrefl 0), ⟨Nat.zero_le _, Or.inr (Nat.zero_le _)⟩, Slots.nil _ _⟩, HS.out.1, HS.out.2.1, by simp, by simp, ⟨by have := HS.out.2.2; simp; omega, h4⟩, by simp, by simp⟩, (Below.refl _ _).alloc (Nat.le_refl _) _⟩
  subst hk
  exact ⟨Nat.le_refl _, by simp⟩

set_option maxRecDepth 100000 in
set_option maxHeartbeats 8000000 in
theorem new_no (w : World) (size id : Int) (hn : size < 1 ∨ 16777216 < size ∨ id = 0) :
    Calls Try.prog 9 #[.int .i64 size, .int .u64 id] w fun e w' => e = .returned (.tuple #[.pointer none, .int .i64 190]) ∧ w = w' := by
  by_cases h1 : size < 1
  · clear hn
    go_enter Try.func9, Try.ntmps9
    go_wp2
    go_ret2
    exact ⟨rfl, rfl⟩
  · have h1b : decide (size < 1) = false := by simpa using h1
    by_cases h2 : 16777216 < size
    · clear hn
      go_enter Try.func9, Try.ntmps9
      go_wp2
      go_ret2
      exact ⟨rfl, rfl⟩
    · have h2b : decide (16777216 < size) = false := by simpa using h2
      obtain rfl : id = 0 := by omega
      clear hn
      go_enter Try.func9, Try.ntmps9
      go_wp2
      go_ret2
      exact ⟨rfl, rfl⟩

theorem LsOn.hist {al r : Nat} (H : LsOn w base F p s h al r X) (h' : Hst) : LsOn ((((w.setCell ⟨p, 1, none⟩ (.int .u64 h'.id)).setCell ⟨p, 2, none⟩ (.int .i64 h'.off)).setCell ⟨p, 3, none⟩ (.int .u64 h'.sec)).setCell ⟨p, 4, none⟩ (.int .i64 h'.frk)) base F p s h' al r X := by
  obtain ⟨hF, hFp, hXr, g, m, S, hp, hg, hroom, hsl⟩ := H
  refine ⟨fun k hk => by simpa using hF k hk, hFp, hXr, g, m, S, ((((hp.set 1 _).set 2 _).set 3 _).set 4 _).congr (fun i hi => ?_), fun hm => ⟨(hg hm).1, (hg hm).2.1, (((((hg hm).2.2.setOther (a := ⟨p, 1, none⟩) (hg hm).2.1 _).setOther (a := ⟨p, 2, none⟩) (hg hm).2.1 _).setOther (a := ⟨p, 3, none⟩) (hg hm).2.1 _).setOther (a := ⟨p, 4, none⟩) (hg hm).2.1 _)⟩, hroom, hsl⟩
  unfold rgV
  rcases (by omega : i = 0 ∨ i = 1 ∨ i = 2 ∨ i = 3 ∨ i = 4 ∨ i = 5 ∨ i = 6 ∨ i = 7) with rfl | rfl | rfl | rfl | rfl | rfl | rfl | rfl <;> rfl
theorem LsOn.off {al r : Nat} (H : LsOn w base F p s h al r X) (o : Int) : LsOn (w.setCell ⟨p, 2, none⟩ (.int .i64 o)) base F p s { h with off := o } al r X := by
  obtain ⟨hF, hFp, hXr, g, m, S, hp, hg, hroom, hsl⟩ := H
  refine ⟨fun k hk => by simpa using hF k hk, hFp, hXr, g, m, S, (hp.set 2 _).congr (fun i hi => ?_), fun hm => ⟨(hg hm).1, (hg hm).2.1, (hg hm).2.2.setOther (a := ⟨p, 2, none⟩) (hg hm).2.1 _⟩, hroom, hsl⟩
  unfold rgV
  rcases (by omega : i = 0 ∨ i = 1 ∨ i = 2 ∨ i = 3 ∨ i = 4 ∨ i = 5 ∨ i = 6 ∨ i = 7) with rfl | rfl | rfl | rfl | rfl | rfl | rfl | rfl <;> rfl
theorem LsOn.fresh {al r : Nat} (H : LsOn w base F p s h al r X) : LsOn (((w.setCell ⟨p, 5, none⟩ (.int .i64 (s : Int))).setCell ⟨p, 6, none⟩ (.int .i64 0)).setCell ⟨p, 7, none⟩ (.slice none 0 0)) base F p s h 0 0 [] := by
  obtain ⟨hF, hFp, hXr, g, m, S, hp, hg, hroom, hsl⟩ := H
  refine ⟨fun k hk => by simpa using hF k hk, hFp, Nat.le_refl _, 0, 0, fun _ => 0, (((hp.set 5 _).set 6 _).set 7 _).congr (fun i hi => ?_), fun h0 => absurd h0 (Nat.lt_irrefl 0), ⟨Nat.zero_le _, Or.inr (Nat.zero_le _)⟩, Slots.nil _ _⟩
  unfold rgV
  rcases (by omega : i = 0 ∨ i = 1 ∨ i = 2 ∨ i = 3 ∨ i = 4 ∨ i = 5 ∨ i = 6 ∨ i = 7) with rfl | rfl | rfl | rfl | rfl | rfl | rfl | rfl <;> rfl

set_option maxRecDepth 100000 in
set_option maxHeartbeats 8000000 in
theorem feed_any {n c : Nat} {b : Tx} {A : Option Addr} (w : World) (H : RgOn w base F p s h X) (hb : ByAt w A n c b) (hbF : ∀ g o, 0 < n → A = some ⟨g, o, none⟩ → ¬ F g) :
    Calls Try.prog 26 #[.pointer (some ⟨p, 0, none⟩), .slice A n c] w fun e w' => e = .returned (.int .i64 (fdE h n)) ∧ RgTo w base F p s (fdH h n) (fdX h X b) w' := by
  have hnl := hb.len
  have hnc := hb.le
  have hcm := hb.max
  have HM := Lib.hid (made_any w H)
  have HH := Lib.hid H
  obtain ⟨c0, c1, c2, c3, c4, c5, c6⟩ := H.cells
  have ho2 := H.o2
  have hxo := H.xo
  have hw : IntKind.i64.wrap (1125899906842624 - h.off) = 1125899906842624 - h.off := IntWalk.i64_in _ (by omega)
  unfold fdE fdH fdX
  rw [hnl]
  obtain ⟨off, hof⟩ : ∃ o, h.off = o := ⟨_, rfl⟩
  by_cases hlt : 1125899906842624 - h.off < (n : Int)
  · rw [if_pos hlt, if_pos hlt, if_pos hlt]
    rw [hof] at hw c2 hlt
    clear c0 c1 c3 c4 c5 c6 H hb hnl hxo ho2 hof
    go_enter Try.func26, Try.ntmps26
    go_wp2_with fail
    refine HM.out.mono ?_
    rintro e w2 ⟨rfl, rfl⟩
    go_wp2
    go_ret
    exact ⟨rfl, F, HH.out, Chg.refl F w⟩
  · rw [if_neg hlt, if_neg hlt, if_neg hlt]
    have HP := Lib.hid (put_any w H.ls H.s1 H.s2 hb hbF (by omega))
    have HPX : Hid (∀ w2 F2, LsOn w2 base F2 p s h (X ++ b).length (X ++ b).length (X ++ b) → Chg F F2 w w2 → w2.cell? ⟨p, 2, none⟩ = some (.int .i64 h.off) ∧ w2.frozen? ⟨p, 2, none⟩ = false ∧ RgTo w base F p s { h with off := h.off + n } (X ++ b) (w2.setCell ⟨p, 2, none⟩ (.int .i64 (h.off + n)))) := fun w2 F2 hl hc => by
      have hl2 := hl.off (h.off + n)
      obtain ⟨_, hFp, _, g, m, S, hp, _⟩ := hl
      refine ⟨hp.cell (i := 2) (by omega), hp.frozen 2, F2, ⟨hl2, H.s1, H.s2, ?_, ?_, H.i1, H.i2, H.fk⟩, ⟨(hc.trans ⟨(Only.refl F2 w2).set (q := ⟨p, 2, none⟩) hFp _, fun _ q => Or.inl q⟩).1, fun k hk => hc.2 k hk⟩⟩
      · rw [List.length_append, hnl]
        show _ ≤ h.off + n
        omega
      · show h.off + n ≤ _
        omega
    have hwa : IntKind.i64.wrap (h.off + (n : Int)) = h.off + (n : Int) := IntWalk.i64_in _ (by omega)
    have hltb : decide (1125899906842624 - h.off < (n : Int)) = false := by simpa using hlt
    rw [hof] at hw c2 hlt hltb hwa HPX ⊢
    clear c0 c1 c3 c4 c5 c6 H hb hnl hxo ho2 hof
    go_enter Try.func26, Try.ntmps26
    go_wp2_with fail
    refine HM.out.mono ?_
    rintro e w2 ⟨rfl, rfl⟩
    go_wp2_with fail
    refine HP.out.mono ?_
    rintro e w3 ⟨rfl, F3, hl3, hc3⟩
    obtain ⟨k2, f2, he⟩ := HPX.out w3 F3 hl3 hc3
    have HE := Lib.hid he
    clear hl3 hc3 he
    go_wp2
    go_ret
    exact ⟨rfl, HE.out⟩

end

end Go.Proofs.Ytbecjaamheibmaa
