/-
  The document's own In, Ahead and Read. Conditions: as typed.
-/
import Derived.Test.YtcbiiioglklpoaaDoorSkR
namespace Go.Proofs.YtcbiiioglklpoaaDoor
open Go.RowKit

theorem rd_ne {a : UInt8} (h : ¬ a = 40) (t : List UInt8) : rdRest (a :: t) = a :: t ∧ rdOpen (a :: t) = false :=
  ⟨by unfold rdRest; split <;> simp_all, by unfold rdOpen; split <;> simp_all⟩

/-- The document's own way to say In. -/
def inR (n : Int) (l h : Bd) : Bool :=
  if l.inf = 1 ∨ h.inf = -1 then false
  else if l.inf ≠ -1 ∧ (n < l.n ∨ l.open_ = true ∧ l.n = n) then false
  else decide (h.inf = 1) || decide (n < h.n) || !h.open_ && decide (h.n = n)

theorem inR_eq (n : Int) (l h : Bd) : inR n l h = inB n l h := by
  obtain ⟨ln, lo, li⟩ := l
  obtain ⟨hn, ho, hi⟩ := h
  unfold inR inB abvB blwB
  dsimp only
  by_cases a1 : li = 1
  · subst a1; simp
  · by_cases a2 : hi = -1
    · subst a2; simp
    · by_cases a3 : li = -1
      · subst a3
        by_cases a4 : hi = 1
        · subst a4; simp
        · have e : decide (n = hn) = decide (hn = n) := by simp [eq_comm]
          simp [a2, a4, e]
      · have e : decide (n = hn) = decide (hn = n) := by simp [eq_comm]
        by_cases a5 : n < ln
        · have e1 : decide (ln < n) = false := by simp; omega
          have e2 : decide (n = ln) = false := by simp; omega
          simp [a1, a2, a3, a5, e1, e2]
        · by_cases a6 : ln < n
          · have e1 : decide (ln < n) = true := by simpa using a6
            have e3 : ¬ ln = n := by omega
            by_cases a4 : hi = 1
            · subst a4; simp [a1, a3, a5, a6, e3]
            · simp [a1, a2, a3, a4, a5, a6, e, e3]
          · have e3 : ln = n := by omega
            subst e3
            cases lo with
            | true => simp [a1, a2, a3]
            | false =>
              by_cases a4 : hi = 1
              · subst a4; simp [a1, a3]
              · simp [a1, a2, a3, a4, e]

set_option maxRecDepth 100000 in
set_option maxHeartbeats 4000000 in
theorem rin_any (n : Int) (l h : Bd) (w : World) :
    Calls Tryd.prog 12 #[.int .i64 n, bdV l, bdV h] w fun e w' => e = .returned (.bool (inB n l h)) ∧ Below w.heap.size w w' := by
  rw [← inR_eq]
  obtain ⟨R, hR⟩ : ∃ R, inR n l h = R := ⟨_, rfl⟩
  rw [hR]
  have HR := Lib.hid hR
  clear hR
  obtain ⟨ln, lo, li⟩ := l
  obtain ⟨hn, ho, hi⟩ := h
  unfold bdV
  dsimp only
  go_enter Tryd.func12, Tryd.ntmps12
  go_wp2
  all_goals
    go_ret
    refine ⟨?_, ((Below.refl _ _).alloc (Nat.le_refl _) _).alloc (by simp) _⟩
    have q := HR.out
    unfold inR at q
    dsimp only at q
    refine congrArg Ending.returned ?_
    rw [← q]
    clear q HR
    refine (congrArg Value.bool ?_ : Value.bool _ = Value.bool _)
    first | rfl | (simp_all; done) | (simp_all; omega) | (simp_all; rw [show decide (n < ln) = false from by simp; omega, show decide (n < hn) = false from by simp; omega, show (hi == 1) = false from by simp; omega]; first | rfl | (by_cases z : hn = n <;> simp [z])) | (simp_all; rw [show decide (n < hn) = false from by simp; omega, show (hi == 1) = false from by simp; omega]; first | rfl | (by_cases z : hn = n <;> simp [z]))

set_option maxRecDepth 100000 in
set_option maxHeartbeats 4000000 in
theorem rread_any (S : ByteArray) (w : World) (hS : S.size ≤ 9223372036854775807) :
    Calls Tryd.prog 10 #[.string S] w fun e w' => e = .returned (.tuple #[bdV (rdB S.data.toList), .int .i64 (rdE S.data.toList)]) ∧ Below w.heap.size w w' := by
  by_cases h1 : S.data.toList = [45, 105, 110, 102]
  · have e := str_lit S h1
    have eb : rdB S.data.toList = ⟨0, false, -1⟩ := by unfold rdB rdInf; rw [if_pos h1]
    have ee : rdE S.data.toList = 0 := by unfold rdE rdInf; rw [if_pos h1]
    rw [eb, ee]
    subst e
    clear h1 eb ee
    go_enter Tryd.func10, Tryd.ntmps10
    go_wp2
    exact bodyPost_ret (v := .tuple #[.agg #[.int .i64 0, .bool false, .int .i64 (-1)], .int .i64 0]) (by simp [results, Tryd.results10, go_sem]) rfl ⟨rfl, by repeat first | exact Below.refl _ _ | refine Below.setCell ?_ (by simp) _ | refine Below.alloc ?_ (by simp) _⟩
  · have n1 : (S.toList == [45, 105, 110, 102]) = false := by simpa [ByteArray.toList_eq] using h1
    by_cases h2 : S.data.toList = [43, 105, 110, 102]
    · have e := str_lit S h2
      have eb : rdB S.data.toList = ⟨0, false, 1⟩ := by unfold rdB rdInf; rw [if_neg h1, if_pos (Or.inl h2)]
      have ee : rdE S.data.toList = 0 := by unfold rdE rdInf; rw [if_neg h1, if_pos (Or.inl h2)]
      rw [eb, ee]
      subst e
      clear h1 h2 eb ee n1
      go_enter Tryd.func10, Tryd.ntmps10
      go_wp2
      exact bodyPost_ret (v := .tuple #[.agg #[.int .i64 0, .bool false, .int .i64 1], .int .i64 0]) (by simp [results, Tryd.results10, go_sem]) rfl ⟨rfl, by repeat first | exact Below.refl _ _ | refine Below.setCell ?_ (by simp) _ | refine Below.alloc ?_ (by simp) _⟩
    · by_cases h3 : S.data.toList = [105, 110, 102]
      · have e := str_lit S h3
        have eb : rdB S.data.toList = ⟨0, false, 1⟩ := by unfold rdB rdInf; rw [if_neg h1, if_pos (Or.inr h3)]
        have ee : rdE S.data.toList = 0 := by unfold rdE rdInf; rw [if_neg h1, if_pos (Or.inr h3)]
        rw [eb, ee]
        subst e
        clear h1 h2 h3 eb ee n1
        go_enter Tryd.func10, Tryd.ntmps10
        go_wp2
        exact bodyPost_ret (v := .tuple #[.agg #[.int .i64 0, .bool false, .int .i64 1], .int .i64 0]) (by simp [results, Tryd.results10, go_sem]) rfl ⟨rfl, by repeat first | exact Below.refl _ _ | refine Below.setCell ?_ (by simp) _ | refine Below.alloc ?_ (by simp) _⟩
      · have ei : rdInf S.data.toList = none := by unfold rdInf; rw [if_neg h1, if_neg (by rintro (e | e); exact h2 e; exact h3 e)]
        have n2 : (S.toList == [43, 105, 110, 102]) = false := by simpa [ByteArray.toList_eq] using h2
        have n3 : (S.toList == [105, 110, 102]) = false := by simpa [ByteArray.toList_eq] using h3
        have key : ∃ (U : ByteArray) (O : Bool), U.data.toList = rdRest S.data.toList ∧ U.size ≤ 9223372036854775807 ∧ rdOpen S.data.toList = O ∧
            ((O = false ∧ U = S ∧ (S.size = 0 ∨ ∃ h0 : 0 < S.size, ¬ (S[0]'h0).toNat = 40)) ∨ (O = true ∧ ∃ h0 : 0 < S.size, (S[0]'h0).toNat = 40 ∧ S.extract 1 S.size = U)) := by
          by_cases h0 : 0 < S.size
          · obtain ⟨_, _, _, g4⟩ := toList_cons S h0
            by_cases h40 : (S[0]'h0).toNat = 40
            · have e40 : S[0]'h0 = 40 := UInt8.toNat_inj.1 (by rw [h40]; rfl)
              refine ⟨S.extract 1 S.size, true, ?_, ?_, ?_, Or.inr ⟨rfl, h0, h40, rfl⟩⟩
              · rw [extract_tail S, g4, e40]; rfl
              · rw [ByteArray.size_extract]; omega
              · rw [g4, e40]; rfl
            · have ne : ¬ S[0]'h0 = 40 := fun e => h40 (by rw [e]; rfl)
              refine ⟨S, false, ?_, hS, ?_, Or.inl ⟨rfl, rfl, Or.inr ⟨h0, h40⟩⟩⟩
              · rw [g4]; exact (rd_ne ne _).1.symm
              · rw [g4]; exact (rd_ne ne _).2
          · have hz : S.size = 0 := by omega
            have hn : S.data.toList = [] := List.eq_nil_of_length_eq_zero (by have := Lib.size_eq S; omega)
            exact ⟨S, false, by rw [hn]; rfl, hS, by rw [hn]; rfl, Or.inl ⟨rfl, rfl, Or.inl hz⟩⟩
        obtain ⟨U, O, hUl, hUs, hO, hcs⟩ := key
        have HPA := Lib.hid (fun W => refParse_all U W hUs)
        obtain ⟨V, hV⟩ : ∃ V, valV (parseV U.data.toList) = V := ⟨_, rfl⟩
        obtain ⟨E, hE⟩ : ∃ E, errV (parseV U.data.toList) = E := ⟨_, rfl⟩
        rw [hV, hE] at HPA
        have eb : rdB S.data.toList = if E = 0 then ⟨V, O, 0⟩ else ⟨0, false, 0⟩ := by unfold rdB; rw [ei]; dsimp only; rw [← hUl, hV, hE, hO]
        have ee : rdE S.data.toList = if E = 0 then 0 else 71 := by unfold rdE; rw [ei]; dsimp only; rw [← hUl, hE]
        rw [eb, ee]
        clear h1 h2 h3 ei hUl hUs hO hV hE eb ee hS
        by_cases hE0 : E = 0
        · rw [if_pos hE0, if_pos hE0]
          subst hE0
          rcases hcs with ⟨rfl, rfl, hz | ⟨h0, h40⟩⟩ | ⟨rfl, h0, h40, hx⟩
          · obtain ⟨k1, k2, k3⟩ := toList_nil U hz
            go_enter Tryd.func10, Tryd.ntmps10
            go_wp2_with fail
            refine (HPA.out _).mono ?_
            rintro e w2 ⟨rfl, rfl⟩
            go_wp2
            exact bodyPost_ret (v := .tuple #[.agg #[.int .i64 V, .bool false, .int .i64 0], .int .i64 0]) (by simp [results, Tryd.results10, go_sem]) rfl ⟨rfl, by repeat first | exact Below.refl _ _ | refine Below.setCell ?_ (by simp) _ | refine Below.alloc ?_ (by simp) _⟩
          · obtain ⟨g1, g2, g3, g4⟩ := toList_cons U h0
            have h40' : ¬ ((U[0]'h0).toNat : Int) = 40 := by omega
            go_enter Tryd.func10, Tryd.ntmps10
            go_wp2_with fail
            refine (HPA.out _).mono ?_
            rintro e w2 ⟨rfl, rfl⟩
            go_wp2
            exact bodyPost_ret (v := .tuple #[.agg #[.int .i64 V, .bool false, .int .i64 0], .int .i64 0]) (by simp [results, Tryd.results10, go_sem]) rfl ⟨rfl, by repeat first | exact Below.refl _ _ | refine Below.setCell ?_ (by simp) _ | refine Below.alloc ?_ (by simp) _⟩
          · obtain ⟨g1, g2, g3, g4⟩ := toList_cons S h0
            go_enter Tryd.func10, Tryd.ntmps10
            go_wp2_with fail
            refine (HPA.out _).mono ?_
            rintro e w2 ⟨rfl, rfl⟩
            go_wp2
            exact bodyPost_ret (v := .tuple #[.agg #[.int .i64 V, .bool true, .int .i64 0], .int .i64 0]) (by simp [results, Tryd.results10, go_sem]) rfl ⟨rfl, by repeat first | exact Below.refl _ _ | refine Below.setCell ?_ (by simp) _ | refine Below.alloc ?_ (by simp) _⟩
        · rw [if_neg hE0, if_neg hE0]
          rcases hcs with ⟨rfl, rfl, hz | ⟨h0, h40⟩⟩ | ⟨rfl, h0, h40, hx⟩
          · obtain ⟨k1, k2, k3⟩ := toList_nil U hz
            go_enter Tryd.func10, Tryd.ntmps10
            go_wp2_with fail
            refine (HPA.out _).mono ?_
            rintro e w2 ⟨rfl, rfl⟩
            go_wp2
            exact bodyPost_ret (v := .tuple #[.agg #[.int .i64 0, .bool false, .int .i64 0], .int .i64 71]) (by simp [results, Tryd.results10, go_sem]) rfl ⟨rfl, by repeat first | exact Below.refl _ _ | refine Below.setCell ?_ (by simp) _ | refine Below.alloc ?_ (by simp) _⟩
          · obtain ⟨g1, g2, g3, g4⟩ := toList_cons U h0
            have h40' : ¬ ((U[0]'h0).toNat : Int) = 40 := by omega
            go_enter Tryd.func10, Tryd.ntmps10
            go_wp2_with fail
            refine (HPA.out _).mono ?_
            rintro e w2 ⟨rfl, rfl⟩
            go_wp2
            exact bodyPost_ret (v := .tuple #[.agg #[.int .i64 0, .bool false, .int .i64 0], .int .i64 71]) (by simp [results, Tryd.results10, go_sem]) rfl ⟨rfl, by repeat first | exact Below.refl _ _ | refine Below.setCell ?_ (by simp) _ | refine Below.alloc ?_ (by simp) _⟩
          · obtain ⟨g1, g2, g3, g4⟩ := toList_cons S h0
            go_enter Tryd.func10, Tryd.ntmps10
            go_wp2_with fail
            refine (HPA.out _).mono ?_
            rintro e w2 ⟨rfl, rfl⟩
            go_wp2
            exact bodyPost_ret (v := .tuple #[.agg #[.int .i64 0, .bool false, .int .i64 0], .int .i64 71]) (by simp [results, Tryd.results10, go_sem]) rfl ⟨rfl, by repeat first | exact Below.refl _ _ | refine Below.setCell ?_ (by simp) _ | refine Below.alloc ?_ (by simp) _⟩

end Go.Proofs.YtcbiiioglklpoaaDoor
