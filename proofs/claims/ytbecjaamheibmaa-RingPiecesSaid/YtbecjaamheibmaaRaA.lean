/-
  What every statement of layer 19 asks at its head (alive): its walk. No condition.
-/
import Derived.Test.YtbecjaamheibmaaRtB
import Derived.Lib.SlBytesConst
namespace Go.Proofs.Ytbecjaamheibmaa
open Go.RowKit

section
variable {w w' : World} {base p s : Nat} {F : Nat → Prop} {h : Hst} {X : Tx}
theorem RgOn.bs (H : RgOn w base F p s h X) : base ≤ w.heap.size := by have := H.le; have := H.lt; omega
theorem RgTo.out {h' : Hst} {X' : Tx} (H : RgOn w base F p s h X) (K : RgTo w base F p s h' X' w') : ∃ F', RgOn w' base F' p s h' X' ∧ Chg F F' w w' ∧ Below base w w' := by
  obtain ⟨F', h1, h2⟩ := K
  exact ⟨F', h1, h2, h2.below H.bs (fun k hk => (H.ls.1 k hk).1)⟩
theorem RfOn.bs {G : Nat → Prop} {q : Nat} (H : RfOn w base G q s h X) : base ≤ w.heap.size := by have := H.own q H.me; omega
theorem RfTo.out {G : Nat → Prop} {q : Nat} {h' : Hst} {X' : Tx} (H : RfOn w base G q s h X) (K : RfTo w base G q s h' X' w') : ∃ G', RfOn w' base G' q s h' X' ∧ Chg G G' w w' ∧ Below base w w' := by
  obtain ⟨G', h1, h2⟩ := K
  exact ⟨G', h1, h2, h2.below H.bs (fun k hk => (H.own k hk).1)⟩
end

theorem by_lit (w : World) (l : Tx) (cs : Array Value) (z : Nat × Nat) (h : cs = (l.map byV).toArray) (hl : l.length ≤ 1000) : ByAt (w.alloc (.cells cs 5 z)) (some ⟨w.heap.size, 0, none⟩) l.length l.length l := by
  subst h
  refine ⟨by simp, Nat.le_refl _, by omega, (fun e => by cases e), fun h0 => ⟨w.heap.size, 0, rfl, by simp, fun j u hu => ?_⟩⟩
  have q := heap_alloc_new w (.cells (l.map byV).toArray 5 z)
  rw [Nat.zero_add]
  simp only [World.cell?, q]
  simpa using hu

set_option maxRecDepth 100000 in
set_option maxHeartbeats 16000000 in
theorem alive_any (w : World) : Calls Try.prog 11 #[] w fun e w' => e = .returned (.bool true) ∧ Below w.heap.size w w' := by
  have HN : Hid (Calls Try.prog 9 #[.int .i64 4, .int .u64 7] w fun e w' => e = .returned (.tuple #[.pointer (some ⟨w.heap.size, 0, none⟩), .int .i64 0]) ∧ RgOn w' w.heap.size (· = w.heap.size) w.heap.size 4 ⟨7, 0, 0, 0⟩ [] ∧ Below w.heap.size w w') := new_yes w 4 7 (by omega) (by omega) (by omega) (by omega)
  obtain ⟨M, hM⟩ : ∃ M, w.heap.size = M := ⟨_, rfl⟩
  rw [hM] at HN ⊢
  clear hM
  go_enter Try.func11, Try.ntmps11
  go_wp2_with fail
  refine HN.out.mono ?_
  rintro e w1 ⟨rfl, hr1, hb1⟩
  have HR1 := Lib.hid hr1
  have HB1 := Lib.hid hb1
  obtain ⟨wx, hwx⟩ : ∃ wx, w1.alloc (.cells #[.int .u8 97, .int .u8 98, .int .u8 99, .int .u8 100, .int .u8 101, .int .u8 102] 5 (6, 7)) = wx := ⟨_, rfl⟩
  have hcv : (convert 33 33 (.slice (some ⟨w1.heap.size, 0, none⟩) 6 6)).run Try.prog (w1.alloc (.cells #[.int .u8 97, .int .u8 98, .int .u8 99, .int .u8 100, .int .u8 101, .int .u8 102] 5)) = .ok (.slice (some ⟨w1.heap.size, 0, none⟩) 6 6) wx := by
    rw [← hwx]
    exact Lib.run_convert_bytes_const w1 33 5 _ 6 6 Try.underlying33 Try.underlying5
  have hbx : Below w1.heap.size w1 wx := by rw [← hwx]; exact (Below.refl _ _).alloc (Nat.le_refl _) _
  have hbs : ByAt wx (some ⟨w1.heap.size, 0, none⟩) 6 6 [97, 98, 99, 100, 101, 102] := by rw [← hwx]; exact by_lit w1 [97, 98, 99, 100, 101, 102] _ (6, 7) rfl (by decide)
  have hx1 := hr1.below hbx
  have HF1 : Hid (Calls Try.prog 26 #[.pointer (some ⟨M, 0, none⟩), .slice (some ⟨w1.heap.size, 0, none⟩) 6 6] wx fun e w' => e = .returned (.int .i64 0) ∧ RgTo wx M (· = M) M 4 ⟨7, 6, 0, 0⟩ [97, 98, 99, 100, 101, 102] w') := feed_any wx hx1 hbs (fun g o _ e hg => by injection e with e; injection e with e1 e2; have := hr1.lt; subst hg; omega)
  have HX1 := Lib.hid hx1
  have HBX := Lib.hid (hb1.trans (hbx.mono hr1.bs))
  clear hr1 hb1 hwx hbx hbs hx1
  go_wp2_with fail
  refine HF1.out.mono ?_
  rintro e w2 ⟨rfl, ht2⟩
  obtain ⟨F2, hr2, -, hb2⟩ := RgTo.out HX1.out ht2
  have HR2 := Lib.hid hr2
  have HB2 := Lib.hid (HBX.out.trans hb2)
  have HA3 : Hid (Calls Try.prog 14 #[.pointer (some ⟨M, 0, none⟩), .int .i64 3] w2 (Told w2 [100, 101, 102] 0)) := from_any w2 hr2 3 (by omega) (by omega)
  clear ht2 hr2 hb2
  go_wp2_with fail
  refine HA3.out.mono ?_
  rintro e w3 ⟨A3, n3, c3, rfl, hy3, hb3, hg3⟩
  have hr3 := HR2.out.below hb3
  have HR3 := Lib.hid hr3
  have HB3 := Lib.hid (HB2.out.trans (hb3.mono HR2.out.bs))
  have HY3 := Lib.hid hy3
  have HG3 := Lib.hid hg3
  have HA1 : Hid (Calls Try.prog 14 #[.pointer (some ⟨M, 0, none⟩), .int .i64 1] w3 (Told w3 [] 191)) := from_any w3 hr3 1 (by omega) (by omega)
  clear hr3 hb3 hy3 hg3
  go_wp2_with fail
  refine HA1.out.mono ?_
  rintro e w4 ⟨A4, n4, c4, rfl, _, hb4, _⟩
  have hr4 := HR3.out.below hb4
  have HR4 := Lib.hid hr4
  have HB4 := Lib.hid (HB3.out.trans (hb4.mono HR3.out.bs))
  have HY4 := Lib.hid (HY3.out.below hb4)
  have HFK : Hid (Calls Try.prog 27 #[.pointer (some ⟨M, 0, none⟩), .int .u64 8] w4 fun e w' => e = .returned (.int .i64 0) ∧ RgTo w4 M F2 M 4 ⟨8, 6, 7, 6⟩ [97, 98, 99, 100, 101, 102] w') := fork_any w4 hr4 8 (by omega) (by omega)
  have H3F : Hid (∀ g o, 0 < n3 → A3 = some ⟨g, o, none⟩ → g < w4.heap.size ∧ ¬ F2 g) := fun g o h0 e => by
    obtain ⟨b, o', e', hlt, _⟩ := HY4.out.cell h0
    rw [e] at e'
    injection e' with e'
    injection e' with e1 e2
    subst e1
    refine ⟨hlt, fun hf => ?_⟩
    have h1 := HG3.out g o h0 e
    have h2 := (HR2.out.ls.1 g hf).2
    omega
  clear hr4 hb4
  go_wp2_with fail
  refine HFK.out.mono ?_
  rintro e w5 ⟨rfl, ht5⟩
  have hY5 : ByAt w5 A3 n3 c3 [100, 101, 102] := by
    obtain ⟨F', _, hc⟩ := ht5
    exact HY4.out.only hc.1 (fun g o h0 e => (H3F.out g o h0 e).2)
  obtain ⟨F5, hr5, hc5, hb5⟩ := RgTo.out HR4.out ht5
  have h3F5 : ∀ g o, 0 < n3 → A3 = some ⟨g, o, none⟩ → ¬ F5 g := fun g o h0 e hf => by
    have := H3F.out g o h0 e
    rcases hc5.2 g hf with q | q
    · exact this.2 q
    · omega
  obtain ⟨wy, hwy⟩ : ∃ wy, w5.alloc (.cells #[.int .u8 103] 5 (1, 2)) = wy := ⟨_, rfl⟩
  have hcv2 : (convert 33 33 (.slice (some ⟨w5.heap.size, 0, none⟩) 1 1)).run Try.prog (w5.alloc (.cells #[.int .u8 103] 5)) = .ok (.slice (some ⟨w5.heap.size, 0, none⟩) 1 1) wy := by
    rw [← hwy]
    exact Lib.run_convert_bytes_const w5 33 5 _ 1 1 Try.underlying33 Try.underlying5
  have hby : Below w5.heap.size w5 wy := by rw [← hwy]; exact (Below.refl _ _).alloc (Nat.le_refl _) _
  have hbs : ByAt wy (some ⟨w5.heap.size, 0, none⟩) 1 1 [103] := by rw [← hwy]; exact by_lit w5 [103] _ (1, 2) rfl (by decide)
  have hx5 := hr5.below hby
  have HF6 : Hid (Calls Try.prog 26 #[.pointer (some ⟨M, 0, none⟩), .slice (some ⟨w5.heap.size, 0, none⟩) 1 1] wy fun e w' => e = .returned (.int .i64 0) ∧ RgTo wy M F5 M 4 ⟨8, 7, 7, 6⟩ [97, 98, 99, 100, 101, 102, 103] w') := feed_any wy hx5 hbs (fun g o _ e hg => by injection e with e; injection e with e1 e2; have := (hr5.ls.1 g hg).2; omega)
  have HX5 := Lib.hid hx5
  have HB5 := Lib.hid ((HB4.out.trans hb5).trans (hby.mono hr5.bs))
  have HY5 := Lib.hid (hY5.below hby)
  have H3F5 := Lib.hid h3F5
  clear hr5 hc5 hb5 hwy hby hbs hx5 hY5 ht5 h3F5
  go_wp2_with fail
  refine HF6.out.mono ?_
  rintro e w6 ⟨rfl, ht6⟩
  have hY6 : ByAt w6 A3 n3 c3 [100, 101, 102] := by
    obtain ⟨F', _, hc⟩ := ht6
    exact HY5.out.only hc.1 (fun g o h0 e => H3F5.out g o h0 e)
  obtain ⟨F6, hr6, -, hb6⟩ := RgTo.out HX5.out ht6
  have HR6 := Lib.hid hr6
  have HB6 := Lib.hid (HB5.out.trans hb6)
  have hcv3 := conv_by hY6
  have HA7 : Hid (∀ w7, Below w6.heap.size w6 w7 → Calls Try.prog 18 #[.pointer (some ⟨M, 0, none⟩), .int .u64 7, .int .i64 6] w7 fun e w' => e = .returned (.bool true) ∧ Below w7.heap.size w7 w') := fun w7 hb => accepts_any w7 (HR6.out.below hb) 7 6
  have HA8 : Hid (∀ w7, Below w6.heap.size w6 w7 → Calls Try.prog 18 #[.pointer (some ⟨M, 0, none⟩), .int .u64 7, .int .i64 7] w7 fun e w' => e = .returned (.bool false) ∧ Below w7.heap.size w7 w') := fun w7 hb => accepts_any w7 (HR6.out.below hb) 7 7
  have HA9 : Hid (∀ w7, Below w6.heap.size w6 w7 → Calls Try.prog 18 #[.pointer (some ⟨M, 0, none⟩), .int .u64 8, .int .i64 7] w7 fun e w' => e = .returned (.bool true) ∧ Below w7.heap.size w7 w') := fun w7 hb => accepts_any w7 (HR6.out.below hb) 8 7
  have HT : Hid (∀ w7, Calls Try.prog 23 #[.int .u64 255] w7 fun e w' => e = .returned (.string ⟨#[48, 48, 48, 48, 48, 48, 48, 48, 48, 48, 48, 48, 48, 48, 102, 102]⟩) ∧ Below w7.heap.size w7 w') := fun w7 => text_any 255 w7 (by omega)
  clear hr6 hb6 ht6 hY6
  go_wp2_with fail
  refine (HA7.out _ (Below.refl _ _)).mono ?_
  rintro e w7 ⟨rfl, hb7⟩
  have HB7 := Lib.hid hb7
  clear hb7
  go_wp2_with fail
  refine (HA8.out _ HB7.out).mono ?_
  rintro e w8 ⟨rfl, hb8⟩
  have HB8 := Lib.hid (below_then HB7.out hb8)
  clear hb8
  go_wp2_with fail
  refine (HA9.out _ HB8.out).mono ?_
  rintro e w9 ⟨rfl, hb9⟩
  have HB9 := Lib.hid (below_then HB8.out hb9)
  clear hb9
  go_wp2_with fail
  refine (HT.out _).mono ?_
  rintro e w10 ⟨rfl, hb10⟩
  have HB10 := Lib.hid (HB6.out.trans ((below_then HB9.out hb10).mono HR6.out.bs))
  clear hb10
  go_wp2
  go_ret
  exact ⟨rfl, HB10.out⟩

end Go.Proofs.Ytbecjaamheibmaa
