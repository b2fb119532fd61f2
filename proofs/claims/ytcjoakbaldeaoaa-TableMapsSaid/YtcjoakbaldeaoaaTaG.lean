/-
  The walk of the document's own All. Conditions: the table's rows lie in memory as they read; there are at most 1000000000 keys.
-/
import Derived.Test.YtcjoakbaldeaoaaTaF
import Derived.Test.YtcjoakbaldeaoaaTaB
import Derived.Laws.AppendOwnNone
import Derived.Maps.AppendAt
namespace Go.Proofs.Ytcjoakbaldeaoaa
open Go.RowKit

def itemCells (l : List (List UInt8 × Int)) : List Value := (l.map fun x => [Value.string ⟨x.1.toArray⟩, .int .i64 x.2]).flatten

theorem itemCells_app (l m : List (List UInt8 × Int)) : itemCells (l ++ m) = itemCells l ++ itemCells m := by unfold itemCells; rw [List.map_append, List.flatten_append]

theorem itemCells_length : ∀ l : List (List UInt8 × Int), (itemCells l).length = l.length * 2
  | [] => rfl
  | x :: l => by
    have ih := itemCells_length l
    show (Value.string ⟨x.1.toArray⟩ :: Value.int .i64 x.2 :: itemCells l).length = _
    rw [List.length_cons, List.length_cons, ih, List.length_cons]
    omega

theorem itemCells_get : ∀ (l : List (List UInt8 × Int)) (j : Nat) (u : Value), (itemCells l)[j]? = some u → ∃ x, l[j / 2]? = some x ∧ (j % 2 = 0 ∧ u = .string ⟨x.1.toArray⟩ ∨ j % 2 = 1 ∧ u = .int .i64 x.2)
  | [], j, u, h => by simp [itemCells] at h
  | x :: l, j, u, h => by
    have e : itemCells (x :: l) = Value.string ⟨x.1.toArray⟩ :: Value.int .i64 x.2 :: itemCells l := rfl
    rw [e] at h
    match j with
    | 0 => simp at h; exact ⟨x, rfl, Or.inl ⟨rfl, h.symm⟩⟩
    | 1 => simp at h; exact ⟨x, rfl, Or.inr ⟨rfl, h.symm⟩⟩
    | j + 2 =>
      simp only [List.getElem?_cons_succ] at h
      obtain ⟨y, h1, h2⟩ := itemCells_get l j u h
      refine ⟨y, ?_, ?_⟩
      · rw [show (j + 2) / 2 = j / 2 + 1 from by omega]; exact h1
      · rw [show (j + 2) % 2 = j % 2 from by omega]; exact h2

theorem info_item : (Try.prog.info? 53).map (fun i => (i.zero, i.size, i.bytes)) = some (some (.agg #[.string ⟨#[]⟩, .int .i64 0]), 2, 24) := by kernel_rfl

theorem own_form {w : World} {base : Nat} {e : TypeId} {size : Nat} {v : Value} {n : Nat} {xs : List Value} (h : w.ownsRow base e size v n xs) : ∃ A c, v = .slice A n c := by
  rcases h.2 with ⟨h1, rfl⟩ | ⟨g, cap, cur, hv, _⟩
  · exact ⟨_, _, h1⟩
  · exact ⟨_, _, hv⟩

set_option maxRecDepth 100000 in
/-- A bucket's items behind a row of the call's own. -/
theorem wpList_append_items {w : World} {ops : Array Oper} {rest : List Oper} {o : Oper} {a : Act} {Q : Exit → Act → World → Prop} (hgd : o.guard = none) (s x : Operand)
    (ho : o.op = .call { callee := .builtin .append, args := #[s, x], argTypes := #[42, 42] })
    (base : Nat) (v : Value) (xs : List (List UInt8 × Int)) (hs : a.eval s = v) (hown : w.ownsRow base 53 2 v xs.length (itemCells xs))
    (A : Option Addr) (g off c : Nat) (l : List (List UInt8 × Int)) (hx : a.eval x = .slice A l.length c) (hX : BktAt w A g off c l)
    (h63 : xs.length + l.length ≤ 1000000000) (hbase : base ≤ w.heap.size)
    (h : ∀ v' w', w'.ownsRow base 53 2 v' (xs ++ l).length (itemCells (xs ++ l)) → w.grownBy w' v.ownBlock → (v'.ownBlock = v.ownBlock ∨ v'.ownBlock = some w.heap.size) → wpList Try.prog ops Q rest (a.put o.dst v') w') :
    wpList Try.prog ops Q (o :: rest) a w := by
  obtain ⟨i0, hi, hy⟩ := Option.map_eq_some_iff.1 info_item
  simp only [Prod.mk.injEq] at hy
  obtain ⟨hy0, hy1, hy2⟩ := hy
  rcases A with _ | ad
  · obtain rfl : c = 0 := hX.bare rfl
    obtain rfl : l = [] := List.length_eq_zero_iff.1 (by have := hX.le; omega)
    refine wpList_append_own_none hgd s x 42 ho base 53 i0 2 Try.underlying42 hi v _ _ hs hown hx ?_
    refine h v w ?_ (World.grownBy.refl _ _) (Or.inl rfl)
    rw [List.append_nil]; exact hown
  · refine wpList_append_own_at w hgd s x 42 ho base 53 i0 (.agg #[.string ⟨#[]⟩, .int .i64 0]) 2 24 Try.underlying42 hi hy0 hy1 hy2 rfl (by decide) v _ _ hs hown ad l.length c (itemCells l) hx (itemCells_length l) (fun j u hj => ?_) (fun u hu => ?_) (by unfold maxLen; omega) (by omega) hbase ?_
    · obtain ⟨y, h1, h2⟩ := itemCells_get l j u hj
      have hlt := (List.getElem?_eq_some_iff.1 h1).1
      obtain ⟨e, _⟩ := hX.at_ (by omega)
      injection e with e
      subst e
      obtain ⟨q0, q1⟩ := hX.items (j / 2) y h1
      rw [Go.WideShapes.add_plain]
      rcases h2 with ⟨hm, rfl⟩ | ⟨hm, rfl⟩
      · rw [← q0]; congr 2; omega
      · rw [← q1]; congr 2; omega
    · obtain ⟨j, hj⟩ := List.getElem?_of_mem hu
      obtain ⟨y, _, h2⟩ := itemCells_get l j u hj
      rcases h2 with ⟨_, rfl⟩ | ⟨_, rfl⟩ <;> rfl
    · intro v' w' ho' hg' _ ha'
      refine h v' w' ?_ hg' ha'
      rw [List.length_append, itemCells_app]
      exact ho'

theorem take_flat_le {γ : Type} (R : List (List γ)) (j : Nat) : (R.take j).flatten.length ≤ R.flatten.length := by
  have := congrArg List.length (congrArg List.flatten (List.take_append_drop j R))
  rw [List.flatten_append, List.length_append] at this
  omega

theorem take_flat_step {γ : Type} (R : List (List γ)) (j : Nat) (l : List γ) (h : R[j]? = some l) : (R.take (j + 1)).flatten = (R.take j).flatten ++ l := by
  rw [List.take_add_one, h, Option.toList_some, List.flatten_append]
  simp

theorem grown_own {w w1 w2 : World} {base : Nat} {v : Value} {xs : List Value} {n : Nat} (hb : Below base w w1) (hbase : base ≤ w1.heap.size) (hown : w1.ownsRow base 53 2 v n xs) (hg : w1.grownBy w2 v.ownBlock) : Below base w w2 :=
  hb.grown hg hbase (fun k hk => by
    rcases hown.2 with ⟨h1, _⟩ | ⟨g, _, _, h1, h2, h3, _⟩
    · rw [h1] at hk; cases hk
    · rw [h1] at hk
      simp only [Value.ownBlock, Option.some.injEq] at hk
      subst hk
      exact h2)

set_option maxRecDepth 100000 in
set_option maxHeartbeats 8000000 in
theorem rall_any {Q seed : Nat} {t : Tb Int} {A : Option Addr} {gA cA : Nat} {sA : Nat → Spot} {B : Option Addr} {gB cB : Nat} {sB : Nat → Spot} (w : World) (h : TbAt w Q seed t A gA cA sA B gB cB sB) (hn : (allT t).length ≤ 1000000000) :
    Calls Try.prog 21 #[.pointer (some ⟨Q, 0, none⟩)] w fun e w' => ∃ v, e = .returned v ∧ w'.ownsRow w.heap.size 53 2 v (allT t).length (itemCells (allT t)) ∧ Below w.heap.size w w' := by
  have hmaxA := h.a.max
  have hleA := h.a.le
  have hmaxB := h.b.max
  have hleB := h.b.le
  have c1 := h.c1
  have c2 := h.c2
  have hQ := World.block_lt_of_cell? w _ c1
  have HA := Lib.hid h.a
  have HB := Lib.hid h.b
  obtain ⟨RA, hRA⟩ : ∃ R, t.A = R := ⟨_, rfl⟩
  obtain ⟨RB, hRB⟩ : ∃ R, t.B = R := ⟨_, rfl⟩
  have HALL : Hid (allT t = RA.flatten ++ RB.flatten) := by unfold Hid allT; rw [hRA, hRB]
  rw [HALL.out] at hn ⊢
  rw [hRA] at HA c1 hleA
  rw [hRB] at HB c2 hleB
  have HLE : Hid (RA.flatten.length + RB.flatten.length ≤ 1000000000) := by unfold Hid; rw [List.length_append] at hn; exact hn
  obtain ⟨na, hna⟩ : ∃ n, RA.length = n := ⟨_, rfl⟩
  obtain ⟨nb, hnb⟩ : ∃ n, RB.length = n := ⟨_, rfl⟩
  have HNA := Lib.hid hna
  have HNB := Lib.hid hnb
  rw [hna] at c1 hleA
  rw [hnb] at c2 hleB
  have C1 := Lib.hid c1
  have C2 := Lib.hid c2
  clear h hn hRA hRB HALL hna hnb c1 c2
  go_enter Try.func21, Try.ntmps21
  go_wp2
  go_loopw [3, 4] (fun v iv wr => ∃ j : Nat, iv = .int .i64 j ∧ j ≤ na ∧ wr.ownsRow w.heap.size 53 2 v (RA.take j).flatten.length (itemCells (RA.take j).flatten) ∧ Below w.heap.size w wr) (fun _ iv _ => na - (intOf iv).toNat)
  case atStart => exact ⟨0, rfl, by omega, ⟨rfl, .inl ⟨rfl, rfl⟩⟩, Below.refl _ _⟩
  case round =>
    obtain ⟨j, rfl, hj, hown, hb⟩ := hrel
    have HOW := Lib.hid hown
    have HBL := Lib.hid hb
    have hzr := hb.size
    have d1 := (hb.cell (p := ⟨Q, 1, none⟩) hQ).trans C1.out
    obtain ⟨Av, cv, rfl⟩ := own_form hown
    clear hown hb
    by_cases hlt : j < na
    · obtain ⟨l, hl⟩ : ∃ l, RA[j]? = some l := ⟨_, List.getElem?_eq_getElem (by rw [HNA.out]; exact hlt)⟩
      obtain ⟨rfl, hgA⟩ := HA.out.at_ (by rw [HNA.out]; omega)
      obtain ⟨k1, k2⟩ := (HA.out.below HBL.out).cell j l hl
      have HST := Lib.hid (take_flat_step RA j l hl)
      have hle1 : (RA.take j).flatten.length + l.length ≤ 1000000000 := by
        have h1 := take_flat_le RA (j + 1)
        rw [HST.out, List.length_append] at h1
        have := HLE.out
        omega
      obtain ⟨F, hF⟩ : ∃ F, (RA.take j).flatten = F := ⟨_, rfl⟩
      rw [hF] at HOW HST hle1 ⊢
      have K2 := Lib.hid k2
      clear hl hF k2
      go_wp2_with (at_builtin; refine wpList_append_items rfl _ _ rfl w.heap.size _ F rfl HOW.out _ _ _ _ l rfl K2.out ?c1 ?c2 ?_)
      try case c1 => exact hle1
      try case c2 => exact hzr
      intro v' w' hown' hg' _
      have HB' := Lib.hid (grown_own HBL.out hzr HOW.out hg')
      rw [← HST.out] at hown'
      have HO' := Lib.hid hown'
      obtain ⟨Av', cv', rfl⟩ := own_form hown'
      clear hown' hg' d1 k1
      go_wp2
      go_roundw
      case rel => exact ⟨j + 1, by go_num, by omega, by
        have e := congrArg List.length HST.out
        rw [List.length_append] at e
        rw [e]
        exact HO'.out, HB'.out⟩
      case measure => simp only [intOf]; omega
    · obtain rfl : j = na := by omega
      have hall : RA.take j = RA := List.take_of_length_le (by rw [HNA.out]; exact Nat.le_refl _)
      rw [hall] at HOW ⊢
      clear hall
      go_wp2
      clear d1
      go_loopw [3, 5] (fun v iv wr => ∃ q : Nat, iv = .int .i64 q ∧ q ≤ nb ∧ wr.ownsRow w.heap.size 53 2 v (RA.flatten ++ (RB.take q).flatten).length (itemCells (RA.flatten ++ (RB.take q).flatten)) ∧ Below w.heap.size w wr) (fun _ iv _ => nb - (intOf iv).toNat)
      case atStart =>
        refine ⟨0, rfl, by omega, ?_, HBL.out⟩
        have := HOW.out
        rw [List.take_zero, List.flatten_nil, List.append_nil]
        exact this
      case round =>
        obtain ⟨q, rfl, hq, hown, hb⟩ := hrel
        have HOW2 := Lib.hid hown
        have HBL2 := Lib.hid hb
        have hzr2 := hb.size
        have d2 := (hb.cell (p := ⟨Q, 2, none⟩) hQ).trans C2.out
        obtain ⟨Aw, cw, rfl⟩ := own_form hown
        clear hown hb
        by_cases hlt2 : q < nb
        · obtain ⟨l, hl⟩ : ∃ l, RB[q]? = some l := ⟨_, List.getElem?_eq_getElem (by rw [HNB.out]; exact hlt2)⟩
          obtain ⟨rfl, hgB⟩ := HB.out.at_ (by rw [HNB.out]; omega)
          obtain ⟨k1, k2⟩ := (HB.out.below HBL2.out).cell q l hl
          have HST : Hid (RA.flatten ++ (RB.take (q + 1)).flatten = RA.flatten ++ (RB.take q).flatten ++ l) := by unfold Hid; rw [take_flat_step RB q l hl, List.append_assoc]
          have hle1 : (RA.flatten ++ (RB.take q).flatten).length + l.length ≤ 1000000000 := by
            have h1 := take_flat_le RB (q + 1)
            have h2 := congrArg List.length HST.out
            simp only [List.length_append] at h2 ⊢
            have := HLE.out
            omega
          obtain ⟨F, hF⟩ : ∃ F, RA.flatten ++ (RB.take q).flatten = F := ⟨_, rfl⟩
          rw [hF] at HOW2 HST hle1 ⊢
          have K2 := Lib.hid k2
          clear hl hF k2
          go_wp2_with (at_builtin; refine wpList_append_items rfl _ _ rfl w.heap.size _ F rfl HOW2.out _ _ _ _ l rfl K2.out ?c1 ?c2 ?_)
          try case c1 => exact hle1
          try case c2 => exact hzr2
          intro v' w' hown' hg' _
          have HB' := Lib.hid (grown_own HBL2.out hzr2 HOW2.out hg')
          rw [← HST.out] at hown'
          have HO' := Lib.hid hown'
          obtain ⟨Av', cv', rfl⟩ := own_form hown'
          clear hown' hg' d2 k1
          go_wp2
          go_roundw
          case rel => exact ⟨q + 1, by go_num, by omega, by
            have e : (RA.flatten ++ (RB.take (q + 1)).flatten).length = F.length + l.length := by rw [HST.out, List.length_append]
            rw [e]
            exact HO'.out, HB'.out⟩
          case measure => simp only [intOf]; omega
        · obtain rfl : q = nb := by omega
          have hall : RB.take q = RB := List.take_of_length_le (by rw [HNB.out]; exact Nat.le_refl _)
          rw [hall] at HOW2 ⊢
          clear hall
          go_wp2
          go_ret
          exact ⟨_, rfl, HOW2.out, HBL2.out⟩

end Go.Proofs.Ytcjoakbaldeaoaa
