/-
  Check, of package command and of the document, at any arguments. Conditions: at most 2000 arguments of at most 1000 bytes each, in memory.
-/
import Derived.Test.YtinpimejiepahaaCmK
namespace Go.Proofs.Ytinpimejiepahaa
open Go.RowKit

def f4 (a0 a1 a2 a3 : Value) : Nat → Value
  | 0 => a0
  | 1 => a1
  | 2 => a2
  | _ => a3
theorem rows4 (w : World) (t : TypeId) (a0 a1 a2 a3 : Value) : (w.alloc (.cells #[a0, a1, a2, a3] t)).rowIs w.heap.size t 4 (f4 a0 a1 a2 a3) :=
  World.rowIs_alloc w #[a0, a1, a2, a3] t _ (fun i hi => by
    have hi : i < 4 := hi
    rcases (by omega : i = 0 ∨ i = 1 ∨ i = 2 ∨ i = 3) with rfl | rfl | rfl | rfl <;> rfl)
theorem box4_of_row {w : World} {B : Nat} {t : TypeId} {a0 a1 a2 a3 : Value} (h : w.rowIs B t 4 (f4 a0 a1 a2 a3)) : w.cell? ⟨B, 0, none⟩ = some a0 ∧ w.cell? ⟨B, 1, none⟩ = some a1 ∧ w.cell? ⟨B, 2, none⟩ = some a2 ∧ w.cell? ⟨B, 3, none⟩ = some a3 ∧ ∀ i, w.frozen? ⟨B, i, none⟩ = false :=
  ⟨h.cell (i := 0) (by omega), h.cell (i := 1) (by omega), h.cell (i := 2) (by omega), h.cell (i := 3) (by omega), fun i => h.frozen i⟩

def okV : Value := .agg #[.int .i64 0, .string ⟨#[]⟩, .int .i64 0, .slice none 0 0]
def repV : Option Tx → Value
  | none => okV
  | some T => errV ⟨T.toArray⟩
/-- What Check answers. -/
def chkV (L : List Tx) : Value := .tuple #[aggS (chk L).1, repV (chk L).2, .bool (chk L).2.isNone]

theorem chk_nil : chk [] = (spZ, some (unkT [])) := rfl
theorem chk_unk {a : Tx} {L : List Tx} (h : lookT a = none) : chk (a :: L) = (spZ, some (unkT a)) := by
  unfold chk
  simp only [List.head?_cons]
  rw [h]
theorem chk_arg {a : Tx} {L : List Tx} {s : Sp} (h : lookT a = some s) (ht : tkB s (a :: L).length = false) : chk (a :: L) = (spZ, some (argT s.1)) := by
  unfold chk
  simp only [List.head?_cons]
  rw [h]
  simp only [ht]
  rfl
theorem chk_ok {a : Tx} {L : List Tx} {s : Sp} (h : lookT a = some s) (ht : tkB s (a :: L).length = true) : chk (a :: L) = (s, none) := by
  unfold chk
  simp only [List.head?_cons]
  rw [h]
  simp only [ht]
  rfl

theorem arg_text (nm : Tx) : (⟨#[69, 82, 82, 32, 119, 114, 111, 110, 103, 32, 110, 117, 109, 98, 101, 114, 32, 111, 102, 32, 97, 114, 103, 117, 109, 101, 110, 116, 115, 32, 102, 111, 114, 32, 39]⟩ : ByteArray) ++ ⟨nm.toArray⟩ ++ ⟨#[39, 32, 99, 111, 109, 109, 97, 110, 100]⟩ = ⟨(argT nm).toArray⟩ := by
  apply ByteArray.ext
  simp [argT]
theorem unk_text (nm : Tx) : (⟨#[69, 82, 82, 32, 117, 110, 107, 110, 111, 119, 110, 32, 99, 111, 109, 109, 97, 110, 100, 32, 39]⟩ : ByteArray) ++ ⟨(plnL nm).toArray⟩ ++ ⟨#[39]⟩ = ⟨(unkT nm).toArray⟩ := by
  apply ByteArray.ext
  simp [unkT]
theorem low_arg (s : Sp) (hs : s ∈ rowsT) : -1000 ≤ s.2.2.1 ∧ s.2.2.1 ≤ 1000 := ⟨by have := (goodS hs).lo; omega, by have := (goodS hs).hi; omega⟩

set_option maxRecDepth 100000 in
set_option maxHeartbeats 16000000 in
theorem check_any {A : Option Addr} {n c : Nat} {L : List Tx} (w : World) (h : TxAt w A n c L) (hn : n ≤ 2000) (hl : ∀ x ∈ L, x.length ≤ 1000) :
    Calls Try.prog 18 #[.slice A n c] w fun e w' => e = .returned (chkV L) ∧ Below w.heap.size w w' := by
  have HIN := Lib.hid h
  have hlen := h.len
  have hle := h.le
  obtain ⟨R, hR⟩ : ∃ R, chkV L = R := ⟨_, rfl⟩
  have HRV := Lib.hid hR
  rw [hR]
  obtain ⟨B, hB⟩ : ∃ B, w.heap.size = B := ⟨_, rfl⟩
  have HBS := Lib.hid hB
  rw [hB]
  obtain ⟨w1, hw1⟩ : ∃ w1, w.alloc (.cells #[.string ⟨#[]⟩, .int .i64 0, .int .i64 0, .bool false, .int .i64 0, .int .i64 0, .int .i64 0] 27) = w1 := ⟨_, rfl⟩
  obtain ⟨w2, hw2⟩ : ∃ w2, w1.alloc (.cells #[.int .i64 0, .string ⟨#[]⟩, .int .i64 0, .slice none 0 0] 37) = w2 := ⟨_, rfl⟩
  have s1 : w1.heap.size = B + 1 := by rw [← hw1, World.size_alloc, hB]
  have s2 : w2.heap.size = B + 2 := by rw [← hw2, World.size_alloc, s1]
  have b1 : Below B w w1 := by rw [← hw1, ← hB]; exact (Below.refl _ _).alloc (Nat.le_refl _) _
  have b2 : Below w1.heap.size w1 w2 := by rw [← hw2]; exact (Below.refl _ _).alloc (Nat.le_refl _) _
  have r1 : w1.rowIs B 27 7 (f7 (.string ⟨#[]⟩) (.int .i64 0) (.int .i64 0) (.bool false) (.int .i64 0) (.int .i64 0) (.int .i64 0)) := by rw [← hw1, ← hB]; exact rows7 w _ _ _ _ _ _ _ _
  have HR2 : Hid (w2.rowIs (B + 1) 37 4 (f4 (.int .i64 0) (.string ⟨#[]⟩) (.int .i64 0) (.slice none 0 0))) := by unfold Hid; rw [← hw2, ← s1]; exact rows4 w1 _ _ _ _ _
  have HR1 : Hid (w2.rowIs B 27 7 (f7 (.string ⟨#[]⟩) (.int .i64 0) (.int .i64 0) (.bool false) (.int .i64 0) (.int .i64 0) (.int .i64 0))) := r1.of_block (b2.block B r1.lt)
  have HB2 : Hid (Below B w w2) := b1.trans (b2.mono (by omega))
  have HW2 : Hid ((w.alloc (.cells #[.string ⟨#[]⟩, .int .i64 0, .int .i64 0, .bool false, .int .i64 0, .int .i64 0, .int .i64 0] 27)).alloc (.cells #[.int .i64 0, .string ⟨#[]⟩, .int .i64 0, .slice none 0 0] 37) = w2) := by unfold Hid; rw [hw1, hw2]
  have HS2 := Lib.hid s2
  have hs2 := s2
  clear h hR hw1 hw2 s1 s2 b1 b2 r1
  have HRF := Lib.hid refused_any
  rcases L with _ | ⟨a, L⟩
  · obtain rfl : n = 0 := hlen.symm
    have HU := unknown_any [] (by decide)
    obtain ⟨T1, hT1⟩ : ∃ T1 : ByteArray, (⟨(unkT []).toArray⟩ : ByteArray) = T1 := ⟨_, rfl⟩
    rw [hT1] at HU
    have HU := Lib.hid HU
    have HE : Hid (R = .tuple #[zeroV, errV T1, .bool false]) := by
      unfold Hid
      rw [← HRV.out]
      unfold chkV
      rw [chk_nil, ← hT1]
      rfl
    clear hT1
    go_enter Try.func18, Try.ntmps18
    go_wp2_with fail
    rw [HW2.out]
    refine (HU.out _).mono ?_
    rintro e w3 ⟨rfl, hb3⟩
    have HB3 := Lib.hid hb3
    clear hb3
    go_wp2_with fail
    refine (HRF.out _ _).mono ?_
    rintro e w4 ⟨rfl, hb4⟩
    have HB4 := Lib.hid (bup HB3.out hb4)
    clear hb4
    obtain ⟨-, z0, z1, z2, z3, z4, z5, z6, zf⟩ := box7_of_row (HR1.out.of_block (HB4.out.block _ HR1.out.lt))
    have zf0 := zf 0
    have zf1 := zf 1
    have zf2 := zf 2
    have zf3 := zf 3
    have zf4 := zf 4
    have zf5 := zf 5
    have zf6 := zf 6
    obtain ⟨y0, y1, y2, y3, yf⟩ := box4_of_row (HR2.out.of_block (HB4.out.block _ HR2.out.lt))
    have yf0 := yf 0
    have yf1 := yf 1
    have yf2 := yf 2
    have yf3 := yf 3
    clear zf yf
    unfold zeroV errV
    go_wp2
    refine bodyPost_ret (v := R) (by rw [HE.out]; unfold zeroV errV; simp [results, Try.results18, go_sem, z0, z1, z2, z3, z4, z5, z6, y0, y1, y2, y3]) rfl ⟨rfl, ?_⟩
    iterate 11 (refine Below.setCell ?_ (by dsimp only; omega) _)
    exact HB2.out.trans (HB4.out.mono (by omega))
  · have hpos : 0 < n := by rw [← hlen]; exact Nat.succ_pos _
    have ha := hl a (List.mem_cons_self ..)
    have HLK := Lib.hid (fun W => look_any a (by omega) W)
    have HU := Lib.hid (fun W => unknown_any a (by omega) W)
    obtain ⟨b, o, rfl, hbl, hc⟩ := HIN.out.at_ hpos
    have HC0 : Hid (∀ X, Below w.heap.size w X → X.cell? ⟨b, o, none⟩ = some (.string ⟨a.toArray⟩)) := fun X hX => (hX.cell (p := ⟨b, o, none⟩) hbl).trans (hc 0 a rfl)
    have hbB : b < B := by rw [← HBS.out]; exact hbl
    have HC2 : Hid (∀ X, Below w2.heap.size w2 X → X.cell? ⟨b, o, none⟩ = some (.string ⟨a.toArray⟩)) := fun X hX => HC0.out X (by rw [HBS.out]; exact HB2.out.trans (hX.mono (by omega)))
    have c2 := HC2.out w2 (Below.refl _ _)
    have hn0 : ¬ (n : Int) = 0 := by omega
    have hn1 : (0 : Int) < (n : Int) := by omega
    have hn2 : ¬ n = 0 := by omega
    have HWE : Hid ((w.alloc (.cells #[.string ⟨#[]⟩, .int .i64 0, .int .i64 0, .bool false, .int .i64 0, .int .i64 0, .int .i64 0] 27)).alloc (.cells #[.int .i64 0, .string ⟨#[]⟩, .int .i64 0, .slice none 0 0] 37) = w2) := HW2
    have c1 : ((w.alloc (.cells #[.string ⟨#[]⟩, .int .i64 0, .int .i64 0, .bool false, .int .i64 0, .int .i64 0, .int .i64 0] 27)).alloc (.cells #[.int .i64 0, .string ⟨#[]⟩, .int .i64 0, .slice none 0 0] 37)).cell? ⟨b, o, none⟩ = some (.string ⟨a.toArray⟩) := by rw [HW2.out]; exact c2
    obtain ⟨TA, hTA⟩ : ∃ TA : ByteArray, (⟨a.toArray⟩ : ByteArray) = TA := ⟨_, rfl⟩
    rw [hTA] at c1 c2 HLK HU HC2
    have HTA := Lib.hid hTA
    clear hTA hbl hc
    cases hq : lookT a with
    | none =>
      have HE : Hid (R = .tuple #[zeroV, errV ⟨(unkT a).toArray⟩, .bool false] ∧ lkS a = spZ ∧ lkB a = false) := by
        unfold Hid
        rw [← HRV.out]
        unfold chkV lkS lkB
        rw [chk_unk hq, hq]
        exact ⟨rfl, rfl, rfl⟩
      obtain ⟨T1, hT1⟩ : ∃ T1 : ByteArray, (⟨(unkT a).toArray⟩ : ByteArray) = T1 := ⟨_, rfl⟩
      rw [hT1] at HE HU
      rw [HE.out.2.1, HE.out.2.2] at HLK
      clear hT1 hq
      go_enter Try.func18, Try.ntmps18
      go_wp2_with fail
      rw [HW2.out]
      refine (HLK.out _).mono ?_
      rintro e w3 ⟨rfl, hb3⟩
      have HB3 := Lib.hid hb3
      have c3 := HC2.out w3 hb3
      clear hb3
      unfold aggS encS spZ
      dsimp only
      have hb5 : Below w2.heap.size w2 (w3.alloc (.cells #[.string ⟨#[]⟩, .int .i64 0, .int .i64 0, .bool false, .int .i64 0, .int .i64 0, .int .i64 0] 27)) := HB3.out.alloc HB3.out.size _
      have c5 := HC2.out _ hb5
      have HB5 := Lib.hid hb5
      clear hb5
      go_wp2_with fail
      refine (HU.out _).mono ?_
      rintro e w6 ⟨rfl, hb6⟩
      have HB6 := Lib.hid (bup HB5.out hb6)
      clear hb6
      go_wp2_with fail
      refine (HRF.out _ _).mono ?_
      rintro e w7 ⟨rfl, hb7⟩
      have HB7 := Lib.hid (bup HB6.out hb7)
      clear hb7
      obtain ⟨-, z0, z1, z2, z3, z4, z5, z6, zf⟩ := box7_of_row (HR1.out.of_block (HB7.out.block _ HR1.out.lt))
      have zf0 := zf 0
      have zf1 := zf 1
      have zf2 := zf 2
      have zf3 := zf 3
      have zf4 := zf 4
      have zf5 := zf 5
      have zf6 := zf 6
      obtain ⟨y0, y1, y2, y3, yf⟩ := box4_of_row (HR2.out.of_block (HB7.out.block _ HR2.out.lt))
      have yf0 := yf 0
      have yf1 := yf 1
      have yf2 := yf 2
      have yf3 := yf 3
      clear zf yf
      unfold zeroV errV
      go_wp2
      refine bodyPost_ret (v := R) (by rw [HE.out.1]; unfold zeroV errV; simp [results, Try.results18, go_sem, z0, z1, z2, z3, z4, z5, z6, y0, y1, y2, y3]) rfl ⟨rfl, ?_⟩
      iterate 11 (refine Below.setCell ?_ (by dsimp only; omega) _)
      exact HB2.out.trans (HB7.out.mono (by omega))
    | some s =>
      obtain ⟨hmem, -⟩ := lookT_iff.1 hq
      have hgo := low_arg s hmem
      have hsh := (goodS hmem).short
      have HLV : Hid (lkS a = s ∧ lkB a = true) := by
        unfold Hid lkS lkB
        rw [hq]
        exact ⟨rfl, rfl⟩
      rw [HLV.out.1, HLV.out.2] at HLK
      have HQ := Lib.hid hq
      obtain ⟨nm, g, ar, wr_, f, la, st⟩ := s
      dsimp only at hgo hsh
      have HTK := Lib.hid (fun W => takes_any ⟨nm.toArray⟩ g ar f la st wr_ n hgo.1 hgo.2 W)
      have HTB : Hid (tkB (nm, g, ar, wr_, f, la, st) n = if ar < 0 then decide (-ar ≤ n) else decide ((n : Int) = ar)) := rfl
      have HAT := Lib.hid (arg_text nm)
      obtain ⟨T, hT⟩ : ∃ T : ByteArray, (⟨nm.toArray⟩ : ByteArray) = T := ⟨_, rfl⟩
      have hTs : T.size ≤ 20 := by rw [← hT]; show nm.toArray.size ≤ 20; rw [List.size_toArray]; exact hsh
      rw [hT] at HTK HAT
      have HT := Lib.hid hT
      unfold aggS encS at HLK
      dsimp only at HLK
      rw [hT] at HLK
      rw [← HTB.out] at HTK
      clear hq hmem hgo hsh hT
      cases htk : tkB (nm, g, ar, wr_, f, la, st) n with
      | false =>
        have HE : Hid (R = .tuple #[zeroV, errV ⟨(argT nm).toArray⟩, .bool false]) := by
          unfold Hid
          rw [← HRV.out]
          unfold chkV
          rw [chk_arg HQ.out (by rw [hlen]; exact htk)]
          rfl
        rw [htk] at HTK
        clear htk
        go_enter Try.func18, Try.ntmps18
        go_wp2_with fail
        rw [HW2.out]
        refine (HLK.out _).mono ?_
        rintro e w3 ⟨rfl, hb3⟩
        have HB3 := Lib.hid hb3
        clear hb3
        go_wp2_with fail
        obtain ⟨Q, hQ⟩ : ∃ Q, w3.heap.size = Q := ⟨_, rfl⟩
        obtain ⟨w4, hw4⟩ : ∃ w4, w3.alloc (.cells #[.string T, .int .i64 g, .int .i64 ar, .bool wr_, .int .i64 f, .int .i64 la, .int .i64 st] 27) = w4 := ⟨_, rfl⟩
        have HB4 : Hid (Below w2.heap.size w2 w4) := by unfold Hid; rw [← hw4]; exact HB3.out.alloc HB3.out.size _
        have HBX : Hid (Box7 w4 Q (.string T) (.int .i64 g) (.int .i64 ar) (.bool wr_) (.int .i64 f) (.int .i64 la) (.int .i64 st)) := by unfold Hid; rw [← hw4, ← hQ]; exact Box7.new ..
        rw [hw4]
        clear hw4
        refine (HTK.out _).mono ?_
        rintro e w5 ⟨rfl, hb5⟩
        have HB5 := Lib.hid (bup HB4.out hb5)
        obtain ⟨-, d0, d1, d2, d3, d4, d5, d6, -⟩ := HBX.out.below hb5
        clear hb5
        go_wp2_with fail
        rw [HAT.out]
        obtain ⟨T1, hT1⟩ : ∃ T1 : ByteArray, (⟨(argT nm).toArray⟩ : ByteArray) = T1 := ⟨_, rfl⟩
        rw [hT1]
        rw [hT1] at HE
        refine (HRF.out _ _).mono ?_
        rintro e w7 ⟨rfl, hb7⟩
        have HB7 := Lib.hid (bup HB5.out hb7)
        clear hb7 hT1
        obtain ⟨-, z0, z1, z2, z3, z4, z5, z6, zf⟩ := box7_of_row (HR1.out.of_block (HB7.out.block _ HR1.out.lt))
        have zf0 := zf 0
        have zf1 := zf 1
        have zf2 := zf 2
        have zf3 := zf 3
        have zf4 := zf 4
        have zf5 := zf 5
        have zf6 := zf 6
        obtain ⟨y0, y1, y2, y3, yf⟩ := box4_of_row (HR2.out.of_block (HB7.out.block _ HR2.out.lt))
        have yf0 := yf 0
        have yf1 := yf 1
        have yf2 := yf 2
        have yf3 := yf 3
        clear zf yf
        unfold zeroV errV
        go_wp2
        refine bodyPost_ret (v := R) (by rw [HE.out]; unfold zeroV errV; simp [results, Try.results18, go_sem, z0, z1, z2, z3, z4, z5, z6, y0, y1, y2, y3]) rfl ⟨rfl, ?_⟩
        iterate 11 (refine Below.setCell ?_ (by dsimp only; omega) _)
        exact HB2.out.trans (HB7.out.mono (by omega))
      | true =>
        have HE : Hid (R = .tuple #[.agg #[.string T, .int .i64 g, .int .i64 ar, .bool wr_, .int .i64 f, .int .i64 la, .int .i64 st], okV, .bool true]) := by
          unfold Hid
          rw [← HRV.out]
          unfold chkV
          rw [chk_ok HQ.out (by rw [hlen]; exact htk), ← HT.out]
          rfl
        rw [htk] at HTK
        clear htk
        go_enter Try.func18, Try.ntmps18
        go_wp2_with fail
        rw [HW2.out]
        refine (HLK.out _).mono ?_
        rintro e w3 ⟨rfl, hb3⟩
        have HB3 := Lib.hid hb3
        clear hb3
        go_wp2_with fail
        obtain ⟨Q, hQ⟩ : ∃ Q, w3.heap.size = Q := ⟨_, rfl⟩
        obtain ⟨w4, hw4⟩ : ∃ w4, w3.alloc (.cells #[.string T, .int .i64 g, .int .i64 ar, .bool wr_, .int .i64 f, .int .i64 la, .int .i64 st] 27) = w4 := ⟨_, rfl⟩
        have HB4 : Hid (Below w2.heap.size w2 w4) := by unfold Hid; rw [← hw4]; exact HB3.out.alloc HB3.out.size _
        have HBX : Hid (Box7 w4 Q (.string T) (.int .i64 g) (.int .i64 ar) (.bool wr_) (.int .i64 f) (.int .i64 la) (.int .i64 st)) := by unfold Hid; rw [← hw4, ← hQ]; exact Box7.new ..
        rw [hw4]
        clear hw4
        refine (HTK.out _).mono ?_
        rintro e w5 ⟨rfl, hb5⟩
        have HB5 := Lib.hid (bup HB4.out hb5)
        obtain ⟨-, d0, d1, d2, d3, d4, d5, d6, -⟩ := HBX.out.below hb5
        clear hb5
        obtain ⟨-, z0, z1, z2, z3, z4, z5, z6, zf⟩ := box7_of_row (HR1.out.of_block (HB5.out.block _ HR1.out.lt))
        have zf0 := zf 0
        have zf1 := zf 1
        have zf2 := zf 2
        have zf3 := zf 3
        have zf4 := zf 4
        have zf5 := zf 5
        have zf6 := zf 6
        obtain ⟨y0, y1, y2, y3, yf⟩ := box4_of_row (HR2.out.of_block (HB5.out.block _ HR2.out.lt))
        have yf0 := yf 0
        have yf1 := yf 1
        have yf2 := yf 2
        have yf3 := yf 3
        clear zf yf
        go_wp2
        refine bodyPost_ret (v := R) (by rw [HE.out]; unfold okV; simp [results, Try.results18, go_sem, z0, z1, z2, z3, z4, z5, z6, y0, y1, y2, y3]) rfl ⟨rfl, ?_⟩
        iterate 11 (refine Below.setCell ?_ (by dsimp only; omega) _)
        exact HB2.out.trans (HB5.out.mono (by omega))

end Go.Proofs.Ytinpimejiepahaa
