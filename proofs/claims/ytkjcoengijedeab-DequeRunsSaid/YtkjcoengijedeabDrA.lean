/-
  The document's list in memory (millpondref06.Row): In, Insert, Remove, Trim. Conditions: the row is the list's own.
-/
import Derived.Test.YtkjcoengijedeabDqQ
import Derived.Test.YtkjcoengijedeabDqP
import Derived.Test.YtkjcoengijedeabDlB
import Derived.Test.YtkjcoengijedeabDlD
import Derived.RangeFuncBox
namespace Go.Proofs.Ytkjcoengijedeab
open Go.RowKit

theorem SlAt.rest {w : World} {A : Option Addr} {n c i : Nat} {xs : List Value} (h : SlAt w A n c xs) (hi : i ≤ n) : SlAt w (if c = i then A else A.map (fun x => x.add i)) (n - i) (c - i) (xs.drop i) := by
  have hle := h.le
  have hmx := h.max
  refine ⟨by rw [List.length_drop, h.len], by omega, by omega, fun e => ?_, fun hn => ?_⟩
  · split at e
    · omega
    · have : A = none := by cases A with
        | none => rfl
        | some a => cases e
      have := h.bare this
      omega
  · obtain ⟨b, o, rfl, hb, hc⟩ := h.at_ (by omega)
    rw [if_neg (by omega)]
    refine ⟨b, o + i, ?_, hb, fun j u hu => ?_⟩
    · simp only [Option.map_some, Option.some.injEq]
      unfold Addr.add
      split
      · rename_i h0
        rw [h0, Nat.add_zero]
      · rfl
    · rw [List.getElem?_drop] at hu
      rw [Nat.add_assoc]
      exact hc _ _ hu

/-- The document's list: its own blocks. -/
def RwOn (w : World) (base : Nat) (G : Nat → Prop) (Q : Nat) (L : List ByteArray) : Prop :=
  (∀ k, G k → base ≤ k ∧ k < w.heap.size) ∧ G Q ∧ ∃ A c, Boxed w Q 29 (.slice A L.length c) ∧ w.ownsRow base 9 1 (.slice A L.length c) L.length (L.map Value.string) ∧ ∀ g, (Value.slice A L.length c).ownBlock = some g → G g

section
variable {w w' : World} {base Q : Nat} {G : Nat → Prop} {L L' : List ByteArray}

theorem RwOn.keep (h : RwOn w base G Q L) (hs : w.heap.size ≤ w'.heap.size) (hk : ∀ k, G k → w'.heap[k]? = w.heap[k]?) : RwOn w' base G Q L := by
  obtain ⟨h1, h2, A, c, h3, h4, h5⟩ := h
  exact ⟨fun k hG => ⟨(h1 k hG).1, Nat.lt_of_lt_of_le (h1 k hG).2 hs⟩, h2, A, c, (hk Q h2).trans h3, ownsRow_of_block1 h4 (fun b hb => hk b (h5 b hb)), h5⟩
theorem RwOn.below (h : RwOn w base G Q L) (hb : Below w.heap.size w w') : RwOn w' base G Q L :=
  h.keep hb.size (fun k hk => hb.block k (h.1 k hk).2)
theorem RwOn.only {p : Nat → Prop} (h : RwOn w base G Q L) (hb : Only p w w') (hp : ∀ k, G k → ¬ p k) : RwOn w' base G Q L :=
  h.keep hb.size (fun k hk => hb.block k (h.1 k hk).2 (hp k hk))

theorem RwOn.stored {A' : Option Addr} {c' m : Nat} (h : RwOn w base G Q L) (hb : Below w.heap.size w w') (hl : L'.length = m) (hr : w'.ownsRow w.heap.size 9 1 (.slice A' m c') m (L'.map Value.string)) : ∃ G', RwOn (w'.setCell ⟨Q, 0, none⟩ (.slice A' m c')) base G' Q L' ∧ Chg G G' w (w'.setCell ⟨Q, 0, none⟩ (.slice A' m c')) := by
  subst hl
  obtain ⟨h1, h2, A, c, h3, h4, h5⟩ := h
  have hQ := (h1 Q h2).2
  have hx : Boxed w' Q 29 (.slice A L.length c) := (hb.block Q hQ).trans h3
  have hz : (w'.setCell ⟨Q, 0, none⟩ (.slice A' L'.length c')).heap.size = w'.heap.size := by simp
  have hbs := hb.size
  refine ⟨fun k => k = Q ∨ (Value.slice A' L'.length c').ownBlock = some k, ⟨fun k hk => ?_, Or.inl rfl, A', c', hx.set _, ownsRow_of_block1 (e := 9) (size := 1) ⟨hr.1, ?_⟩ (fun b hb' => Below.heap_setCell _ _ _ _ (show b ≠ Q by have := (hr.lt b hb').1; omega)), fun g hg => Or.inr hg⟩, ?_, fun k hk => ?_⟩
  · rw [hz]
    rcases hk with rfl | hk
    · exact ⟨(h1 _ h2).1, by omega⟩
    · have := hr.lt k hk
      have := (h1 _ h2).1
      exact ⟨by omega, by omega⟩
  · rcases hr.2 with q | ⟨g, cap, cur, q, q2, q3⟩
    · exact Or.inl q
    · exact Or.inr ⟨g, cap, cur, q, Nat.le_trans (Nat.le_trans (h1 _ h2).1 (Nat.le_of_lt hQ)) q2, q3⟩
  · exact (Only.of_below hb).set (q := ⟨Q, 0, none⟩) h2 _
  · rcases hk with rfl | hk
    · exact Or.inl h2
    · exact Or.inr (hr.lt k hk).1

set_option maxRecDepth 100000 in
theorem in_yes (i : Int) (n : Nat) (w : World) (h0 : 0 ≤ i) (hi : i < n) : Calls Try.prog 33 #[.int .i64 i, .int .i64 n] w fun e w' => e = .returned (.bool true) ∧ w' = w := by
  go_enter Try.func33, Try.ntmps33
  go_wp2
  go_ret
  exact ⟨rfl, rfl⟩

set_option maxRecDepth 100000 in
theorem in_no (i : Int) (n : Nat) (w : World) (h : ¬ (0 ≤ i ∧ i < n)) : Calls Try.prog 33 #[.int .i64 i, .int .i64 n] w fun e w' => e = .returned (.bool false) ∧ w' = w := by
  by_cases h0 : 0 ≤ i
  · have h1 : ¬ i < n := fun q => h ⟨h0, q⟩
    clear h
    go_enter Try.func33, Try.ntmps33
    go_wp2
    go_ret
    exact ⟨rfl, rfl⟩
  · clear h
    go_enter Try.func33, Try.ntmps33
    go_wp2
    go_ret
    exact ⟨rfl, rfl⟩

set_option maxRecDepth 100000 in
set_option maxHeartbeats 4000000 in
theorem rins_no (w : World) (h : RwOn w base G Q L) (i : Int) (v : ByteArray) (hi : i < 0 ∨ L.length < i) :
    Calls Try.prog 34 #[.pointer (some ⟨Q, 0, none⟩), .int .i64 i, .string v] w fun e w' => e = .returned (.int .i64 5) ∧ w' = w := by
  obtain ⟨_, _, A, c, hx, _, _⟩ := h
  have c0 := hx.cell
  clear hx
  by_cases h0 : i < 0
  · clear hi
    go_enter Try.func34, Try.ntmps34
    go_wp2
    go_ret
    exact ⟨rfl, rfl⟩
  · have h1 : (L.length : Int) < i := by omega
    clear hi
    go_enter Try.func34, Try.ntmps34
    go_wp2
    go_ret
    exact ⟨rfl, rfl⟩

set_option maxRecDepth 100000 in
set_option maxHeartbeats 4000000 in
theorem rins_yes {i : Nat} (w : World) (h : RwOn w base G Q L) (v : ByteArray) (hL : L.length ≤ 2000) (hi : i ≤ L.length) :
    Calls Try.prog 34 #[.pointer (some ⟨Q, 0, none⟩), .int .i64 i, .string v] w fun e w' => e = .returned (.int .i64 0) ∧ ∃ G', RwOn w' base G' Q (insAt L i v) ∧ Chg G G' w w' := by
  obtain ⟨ip, hip, hyp⟩ := Option.map_eq_some_iff.1 info_eltS
  simp only [Prod.mk.injEq] at hyp
  have HIP := Lib.hid hyp
  have HIQ := Lib.hid hip
  have HH := Lib.hid h
  obtain ⟨hf, hQ, A, c, hx, hown, _⟩ := h
  have HS := Lib.hid (SlAt.own hown)
  have hnc := HS.out.le
  have hcm := HS.out.max
  have hQl := (hf Q hQ).2
  have HX := Lib.hid hx
  have c0 := hx.cell
  obtain ⟨n, hn⟩ : ∃ n, L.length = n := ⟨_, rfl⟩
  have HN := Lib.hid hn
  rw [hn] at HS HX hnc hi c0 hL
  have h1 : ¬ (i : Int) < 0 := by omega
  have h2 : ¬ (n : Int) < (i : Int) := by omega
  have hic : (i : Int) ≤ (c : Int) := by omega
  have hin : (i : Int) ≤ (n : Int) := by omega
  have hi0 : (0 : Int) ≤ (i : Int) := by omega
  obtain ⟨wx, hwx⟩ : ∃ wx, w.alloc (.cells #[] 9) = wx := ⟨_, rfl⟩
  have hbx : Below w.heap.size w wx := by rw [← hwx]; exact (Below.refl _ _).alloc (Nat.le_refl _) _
  have HEMP : Hid (wx.ownsRow w.heap.size 9 1 (.slice (some ⟨w.heap.size, 0, none⟩) 0 0) 0 []) := by
    unfold Hid
    rw [← hwx]
    exact World.ownsRow_made w #[] 0 (Nat.le_refl _) (by decide) rfl
  have HSX := Lib.hid (HS.out.below hbx)
  have HBX := Lib.hid hbx
  have hxz := hbx.size
  have c1 := (hbx.cell (p := ⟨Q, 0, none⟩) hQl).trans c0
  have HWX := Lib.hid hwx
  clear hyp hip hf hQ hx hown hn hwx hbx
  go_enter Try.func34, Try.ntmps34
  have HST1 := Lib.hid (HSX.out.first hi)
  have HON : Hid (∀ (l : List ByteArray) (u : Value), u ∈ l.map Value.string → u.oneCell' = true) := fun l u hu => by
    obtain ⟨x, _, rfl⟩ := List.mem_map.1 hu
    rfl
  go_wp2_with (first | rw [HWX.out] | (at_builtin; refine wpList_append_sl rfl _ _ 22 rfl w.heap.size 9 ip _ 16 Try.underlying22 HIQ.out HIP.out.1 HIP.out.2.1 HIP.out.2.2 rfl (.slice (some ⟨w.heap.size, 0, none⟩) 0 0) 0 [] rfl HEMP.out A i c ((L.map Value.string).take i) rfl HST1.out (by rw [← List.map_take]; exact HON.out _) (by omega) (by omega) hxz ?_))
  intro v' w1 hown hgr hnil hat
  obtain ⟨A1, k1, rfl⟩ := own_form1 hown
  try rw [Nat.zero_add, List.nil_append] at hown
  have hb1 : Below w.heap.size wx w1 := (Below.refl _ _).grown hgr hxz (fun k e => by cases e; exact Nat.le_refl _)
  have HB1 := Lib.hid (HBX.out.trans hb1)
  have HO1 := Lib.hid (ownsRow_of_block1 (w' := w1.alloc (.cells #[.string v] 9)) hown (fun b hb => ((Below.refl w1.heap.size w1).alloc (Nat.le_refl _) _).block b (hown.lt b hb).2))
  have HV := Lib.hid (SlAt.one w1 9 (.string v))
  obtain ⟨wy, hwy⟩ : ∃ wy, w1.alloc (.cells #[.string v] 9) = wy := ⟨_, rfl⟩
  have hby : Below w.heap.size w wy := by rw [← hwy]; exact HB1.out.alloc HB1.out.size _
  have hyz := hby.size
  have HBY := Lib.hid hby
  have c2 := (hby.cell (p := ⟨Q, 0, none⟩) hQl).trans c0
  rw [hwy] at HO1 HV
  have HWY := Lib.hid hwy
  have hown1 := hown
  clear hown hgr hnil hat hb1 c1 hwy hby
  go_wp2_with (first | rw [HWY.out] | (at_builtin; refine wpList_append_sl rfl _ _ 22 rfl w.heap.size 9 ip _ 16 Try.underlying22 HIQ.out HIP.out.1 HIP.out.2.1 HIP.out.2.2 rfl (.slice A1 i k1) i _ rfl HO1.out (some ⟨w1.heap.size, 0, none⟩) 1 1 [.string v] rfl HV.out (by intro u hu; rw [List.mem_singleton] at hu; subst hu; rfl) (by omega) (by omega) hyz ?_))
  intro v' w3 hown hgr hnil hat
  obtain ⟨A3, k3, rfl⟩ := own_form1 hown
  have hb3 : Below w.heap.size wy w3 := (Below.refl _ _).grown hgr hyz (fun k e => (hown1.lt k e).1)
  have hb30 := HBY.out.trans hb3
  have HB3 := Lib.hid hb30
  have c3 := (hb30.cell (p := ⟨Q, 0, none⟩) hQl).trans c0
  have HO3 := Lib.hid hown
  have HS3 := Lib.hid ((HS.out.below hb30).rest hi)
  have hz3 := hb30.size
  clear hgr hnil hat hown hb3 hb30 c2
  have HCL : Hid (∀ (m : Nat) (w4 : World) (A4 : Option Addr) (k4 : Nat) (xs : List Value), Below w.heap.size w w4 → w4.ownsRow w.heap.size 9 1 (.slice A4 m k4) m xs → m = n + 1 → xs = (insAt L i v).map Value.string → ∃ G', RwOn (w4.setCell ⟨Q, 0, none⟩ (.slice A4 m k4)) base G' Q (insAt L i v) ∧ Chg G G' w (w4.setCell ⟨Q, 0, none⟩ (.slice A4 m k4))) := fun m w4 A4 k4 xs h1 h2 e1 e2 => by
    subst e2
    exact HH.out.stored h1 (by rw [insAt_length (by rw [HN.out]; exact hi), HN.out, e1]) h2
  have HXS : Hid ((L.map Value.string).take i ++ [Value.string v] ++ (L.map Value.string).drop i = (insAt L i v).map Value.string) := by
    unfold Hid insAt
    simp [List.map_take, List.map_drop]
  by_cases hci : c = i
  · rw [if_pos hci] at HS3
    have hnc0 : n - i = 0 := by omega
    have hcc0 : c - i = 0 := by omega
    rw [hnc0, hcc0] at HS3
    go_wp2_with (at_builtin; refine wpList_append_sl rfl _ _ 22 rfl w.heap.size 9 ip _ 16 Try.underlying22 HIQ.out HIP.out.1 HIP.out.2.1 HIP.out.2.2 rfl (.slice A3 (i + 1) k3) (i + 1) _ rfl HO3.out A 0 0 _ rfl HS3.out (by rw [← List.map_drop]; exact HON.out _) (by omega) (by omega) hz3 ?_)
    intro v' w4 hown hgr hnil hat
    obtain ⟨A4, k4, rfl⟩ := own_form1 hown
    have hb4 : Below w.heap.size w w4 := HB3.out.trans ((Below.refl _ _).grown hgr hz3 (fun k e => (HO3.out.lt k e).1))
    have hx4 := (hb4.block Q hQl).trans HX.out
    have c4 := Boxed.cell hx4
    have f4 := Boxed.frozen hx4
    trace_state
    have hE := HCL.out _ w4 A4 k4 _ hb4 hown
    have HE := Lib.hid (hE (by omega) (by first | exact HXS.out | simpa using HXS.out))
    clear hE
    clear hown hgr hnil hat hb4 hx4 c3
    go_wp2
    go_ret
    exact ⟨rfl, HE.out⟩
  · rw [if_neg hci] at HS3
    go_wp2_with (at_builtin; refine wpList_append_sl rfl _ _ 22 rfl w.heap.size 9 ip _ 16 Try.underlying22 HIQ.out HIP.out.1 HIP.out.2.1 HIP.out.2.2 rfl (.slice A3 (i + 1) k3) (i + 1) _ rfl HO3.out (A.map (fun x => x.add i)) (n - i) (c - i) _ rfl HS3.out (by rw [← List.map_drop]; exact HON.out _) (by omega) (by omega) hz3 ?_)
    intro v' w4 hown hgr hnil hat
    obtain ⟨A4, k4, rfl⟩ := own_form1 hown
    have hb4 : Below w.heap.size w w4 := HB3.out.trans ((Below.refl _ _).grown hgr hz3 (fun k e => (HO3.out.lt k e).1))
    have hx4 := (hb4.block Q hQl).trans HX.out
    have c4 := Boxed.cell hx4
    have f4 := Boxed.frozen hx4
    trace_state
    have hE := HCL.out _ w4 A4 k4 _ hb4 hown
    have HE := Lib.hid (hE (by omega) (by first | exact HXS.out | simpa using HXS.out))
    clear hE
    clear hown hgr hnil hat hb4 hx4 c3
    go_wp2
    go_ret
    exact ⟨rfl, HE.out⟩

end

end Go.Proofs.Ytkjcoengijedeab
