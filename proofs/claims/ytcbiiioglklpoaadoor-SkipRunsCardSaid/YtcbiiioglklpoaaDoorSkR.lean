/-
  The bound of a text: package skip's Read and the document's own. Conditions: as typed.
-/
import Derived.Test.YtcbiiioglklpoaaDoorSkP
import Derived.Test.YtcbiiioglklpoaaDoorNumP
import Derived.Test.YtcbiiioglklpoaaDoorShelf
namespace Go.Proofs.YtcbiiioglklpoaaDoor
open Go.RowKit

def rdOpen (t : List UInt8) : Bool := match t with | 40 :: _ => true | _ => false
def rdRest (t : List UInt8) : List UInt8 := match t with | 40 :: u => u | _ => t
def rdInf (t : List UInt8) : Option Int := if t = [45, 105, 110, 102] then some (-1) else if t = [43, 105, 110, 102] ∨ t = [105, 110, 102] then some 1 else none

/-- What Read answers: the bound, the error. -/
def rdB (t : List UInt8) : Bd := match rdInf t with
  | some i => ⟨0, false, i⟩
  | none => if errV (parseV (rdRest t)) = 0 then ⟨valV (parseV (rdRest t)), rdOpen t, 0⟩ else ⟨0, false, 0⟩
def rdE (t : List UInt8) : Int := match rdInf t with
  | some _ => 0
  | none => if errV (parseV (rdRest t)) = 0 then 0 else 71

theorem str_lit (S : ByteArray) {l : List UInt8} (h : S.data.toList = l) : S = ⟨l.toArray⟩ := by
  rw [← h]

theorem rd_trim (t : List UInt8) : Lib.trimPrefix t [40] = rdRest t ∧ Lib.hasPrefix t [40] = rdOpen t := by
  rcases t with _ | ⟨a, t⟩
  · exact ⟨rfl, rfl⟩
  · by_cases h : a = 40
    · subst h
      simp [Lib.trimPrefix, Lib.hasPrefix, rdRest, rdOpen]
    · have e1 : rdRest (a :: t) = a :: t := by unfold rdRest; split <;> simp_all
      have e2 : rdOpen (a :: t) = false := by unfold rdOpen; split <;> simp_all
      rw [e1, e2]
      have h' : ¬ 40 = a := fun e => h e.symm
      simp [Lib.trimPrefix, Lib.hasPrefix, List.isPrefixOf, h']

theorem rdRest_len (t : List UInt8) : (rdRest t).length ≤ t.length := by
  unfold rdRest
  split
  · simp
  · exact Nat.le_refl _

set_option maxRecDepth 100000 in
set_option maxHeartbeats 4000000 in
theorem read_any (S : ByteArray) (w : World) (hS : S.size ≤ 9223372036854775807) :
    Calls Tryd.prog 9 #[.string S] w fun e w' => e = .returned (.tuple #[bdV (rdB S.data.toList), .int .i64 (rdE S.data.toList)]) ∧ Below w.heap.size w w' := by
  by_cases h1 : S.data.toList = [45, 105, 110, 102]
  · have e := str_lit S h1
    have eb : rdB S.data.toList = ⟨0, false, -1⟩ := by unfold rdB rdInf; rw [if_pos h1]
    have ee : rdE S.data.toList = 0 := by unfold rdE rdInf; rw [if_pos h1]
    rw [eb, ee]
    subst e
    clear h1 eb ee
    go_enter Tryd.func9, Tryd.ntmps9
    go_wp2
    exact bodyPost_ret (v := .tuple #[.agg #[.int .i64 0, .bool false, .int .i64 (-1)], .int .i64 0]) (by simp [results, Tryd.results9, go_sem]) rfl ⟨rfl, by repeat first | exact Below.refl _ _ | refine Below.setCell ?_ (by simp) _ | refine Below.alloc ?_ (by simp) _⟩
  · have n1 : (S.toList == [45, 105, 110, 102]) = false := by simpa [ByteArray.toList_eq] using h1
    by_cases h2 : S.data.toList = [43, 105, 110, 102]
    · have e := str_lit S h2
      have eb : rdB S.data.toList = ⟨0, false, 1⟩ := by unfold rdB rdInf; rw [if_neg h1, if_pos (Or.inl h2)]
      have ee : rdE S.data.toList = 0 := by unfold rdE rdInf; rw [if_neg h1, if_pos (Or.inl h2)]
      rw [eb, ee]
      subst e
      clear h1 h2 eb ee n1
      go_enter Tryd.func9, Tryd.ntmps9
      go_wp2
      exact bodyPost_ret (v := .tuple #[.agg #[.int .i64 0, .bool false, .int .i64 1], .int .i64 0]) (by simp [results, Tryd.results9, go_sem]) rfl ⟨rfl, by repeat first | exact Below.refl _ _ | refine Below.setCell ?_ (by simp) _ | refine Below.alloc ?_ (by simp) _⟩
    · by_cases h3 : S.data.toList = [105, 110, 102]
      · have e := str_lit S h3
        have eb : rdB S.data.toList = ⟨0, false, 1⟩ := by unfold rdB rdInf; rw [if_neg h1, if_pos (Or.inr h3)]
        have ee : rdE S.data.toList = 0 := by unfold rdE rdInf; rw [if_neg h1, if_pos (Or.inr h3)]
        rw [eb, ee]
        subst e
        clear h1 h2 h3 eb ee n1
        go_enter Tryd.func9, Tryd.ntmps9
        go_wp2
        exact bodyPost_ret (v := .tuple #[.agg #[.int .i64 0, .bool false, .int .i64 1], .int .i64 0]) (by simp [results, Tryd.results9, go_sem]) rfl ⟨rfl, by repeat first | exact Below.refl _ _ | refine Below.setCell ?_ (by simp) _ | refine Below.alloc ?_ (by simp) _⟩
      · have ei : rdInf S.data.toList = none := by unfold rdInf; rw [if_neg h1, if_neg (by rintro (e | e); exact h2 e; exact h3 e)]
        have n2 : (S.toList == [43, 105, 110, 102]) = false := by simpa [ByteArray.toList_eq] using h2
        have n3 : (S.toList == [105, 110, 102]) = false := by simpa [ByteArray.toList_eq] using h3
        obtain ⟨U, hU⟩ : ∃ U : ByteArray, (⟨(rdRest S.data.toList).toArray⟩ : ByteArray) = U := ⟨_, rfl⟩
        have hUl : U.data.toList = rdRest S.data.toList := by rw [← hU]
        have hUs : U.size ≤ 9223372036854775807 := by
          have h := rdRest_len S.data.toList
          have h2 := Lib.size_eq S
          rw [← hU]
          show (rdRest S.data.toList).toArray.size ≤ _
          rw [List.size_toArray]
          omega
        obtain ⟨O, hO⟩ : ∃ O, rdOpen S.data.toList = O := ⟨_, rfl⟩
        have HCT := Lib.hid (fun W => Tryd.strings_CutPrefix S ⟨#[40]⟩ W)
        rw [(rd_trim S.data.toList).1, (rd_trim S.data.toList).2, hU, hO] at HCT
        have HPA := Lib.hid (fun W => parse_any U W hUs)
        obtain ⟨V, hV⟩ : ∃ V, valV (parseV U.data.toList) = V := ⟨_, rfl⟩
        obtain ⟨E, hE⟩ : ∃ E, errV (parseV U.data.toList) = E := ⟨_, rfl⟩
        rw [hV, hE] at HPA
        have eb : rdB S.data.toList = if E = 0 then ⟨V, O, 0⟩ else ⟨0, false, 0⟩ := by unfold rdB; rw [ei]; dsimp only; rw [← hUl, hV, hE, hO]
        have ee : rdE S.data.toList = if E = 0 then 0 else 71 := by unfold rdE; rw [ei]; dsimp only; rw [← hUl, hE]
        rw [eb, ee]
        clear h1 h2 h3 ei hU hUl hUs hO hV hE eb ee hS
        by_cases hE0 : E = 0
        · rw [if_pos hE0, if_pos hE0]
          subst hE0
          go_enter Tryd.func9, Tryd.ntmps9
          go_wp2_with fail
          refine (HCT.out _).mono ?_
          rintro e w1 ⟨rfl, rfl⟩
          go_wp2_with fail
          refine (HPA.out _).mono ?_
          rintro e w2 ⟨rfl, hb2⟩
          have HB2 := Lib.hid (((Below.refl w.heap.size w).alloc (Nat.le_refl _) _).trans (hb2.mono (by simp)))
          have q0 := hb2.cell (p := ⟨w.heap.size, 0, none⟩) (by simp)
          have q1 := hb2.cell (p := ⟨w.heap.size, 1, none⟩) (by simp)
          have q2 := hb2.cell (p := ⟨w.heap.size, 2, none⟩) (by simp)
          have f0 := hb2.frozen (p := ⟨w.heap.size, 0, none⟩) (by simp)
          have f1 := hb2.frozen (p := ⟨w.heap.size, 1, none⟩) (by simp)
          have f2 := hb2.frozen (p := ⟨w.heap.size, 2, none⟩) (by simp)
          have r := World.rowIs_alloc w #[.int .i64 0, .bool false, .int .i64 0] 23 (bdF ⟨0, false, 0⟩) (fun i hi => by
            have hi : i < 3 := hi
            rcases (by omega : i = 0 ∨ i = 1 ∨ i = 2) with rfl | rfl | rfl <;> rfl)
          rw [r.cell (i := 0) (by decide)] at q0
          rw [r.cell (i := 1) (by decide)] at q1
          rw [r.cell (i := 2) (by decide)] at q2
          rw [r.frozen 0] at f0
          rw [r.frozen 1] at f1
          rw [r.frozen 2] at f2
          clear hb2 r
          go_wp2
          exact bodyPost_ret (v := .tuple #[.agg #[.int .i64 V, .bool O, .int .i64 0], .int .i64 0]) (by simp [results, Tryd.results9, go_sem, q0, q1, q2]) rfl ⟨rfl, by repeat first | exact HB2.out | refine Below.setCell ?_ (by simp) _⟩
        · rw [if_neg hE0, if_neg hE0]
          go_enter Tryd.func9, Tryd.ntmps9
          go_wp2_with fail
          refine (HCT.out _).mono ?_
          rintro e w1 ⟨rfl, rfl⟩
          go_wp2_with fail
          refine (HPA.out _).mono ?_
          rintro e w2 ⟨rfl, hb2⟩
          have HB2 := Lib.hid (((Below.refl w.heap.size w).alloc (Nat.le_refl _) _).trans (hb2.mono (by simp)))
          have q0 := hb2.cell (p := ⟨w.heap.size, 0, none⟩) (by simp)
          have q1 := hb2.cell (p := ⟨w.heap.size, 1, none⟩) (by simp)
          have q2 := hb2.cell (p := ⟨w.heap.size, 2, none⟩) (by simp)
          have f0 := hb2.frozen (p := ⟨w.heap.size, 0, none⟩) (by simp)
          have f1 := hb2.frozen (p := ⟨w.heap.size, 1, none⟩) (by simp)
          have f2 := hb2.frozen (p := ⟨w.heap.size, 2, none⟩) (by simp)
          have r := World.rowIs_alloc w #[.int .i64 0, .bool false, .int .i64 0] 23 (bdF ⟨0, false, 0⟩) (fun i hi => by
            have hi : i < 3 := hi
            rcases (by omega : i = 0 ∨ i = 1 ∨ i = 2) with rfl | rfl | rfl <;> rfl)
          rw [r.cell (i := 0) (by decide)] at q0
          rw [r.cell (i := 1) (by decide)] at q1
          rw [r.cell (i := 2) (by decide)] at q2
          rw [r.frozen 0] at f0
          rw [r.frozen 1] at f1
          rw [r.frozen 2] at f2
          clear hb2 r
          go_wp2
          exact bodyPost_ret (v := .tuple #[.agg #[.int .i64 0, .bool false, .int .i64 0], .int .i64 71]) (by simp [results, Tryd.results9, go_sem, q0, q1, q2]) rfl ⟨rfl, by repeat first | exact HB2.out | refine Below.setCell ?_ (by simp) _⟩

end Go.Proofs.YtcbiiioglklpoaaDoor
