/-
  Package members' Meet, Less; MembersAlgebra walked. Conditions: the arguments lie in memory.
-/
import Derived.Test.YtkobhlhkkpnmkaaMbO
import Derived.Test.YtkobhlhkkpnmkaaMbU
namespace Go.Proofs.Ytkobhlhkkpnmkaa
open Go.RowKit

theorem cnt_one (A : Option Addr) (n c : Nat) (K : List Tx) (x : Tx) : cnt [⟨A, n, c, K⟩] x = if x ∈ K then 1 else 0 := by
  unfold cnt
  by_cases h : x ∈ K <;> simp [h]
theorem cnt_two (A B : Option Addr) (n c m d : Nat) (K H : List Tx) (x : Tx) : cnt [⟨A, n, c, K⟩, ⟨B, m, d, H⟩] x = (if x ∈ K then 1 else 0) + (if x ∈ H then 1 else 0) := by
  unfold cnt
  by_cases h : x ∈ K <;> by_cases k : x ∈ H <;> simp [h, k]

section
variable {A B C : Option Addr} {n c m d l f : Nat} {L K H : List Tx}
theorem meet2 (hL : Ris L) (hK : Ris K) {z : Int} (hz : z = 1) : ffX [⟨A, n, c, L⟩, ⟨B, m, d, K⟩] z = L.filter (fun x => decide (x ∈ K)) := by
  subst hz
  simp only [ffX]
  rw [if_pos (by simp [hL, hK])]
  refine List.filter_congr fun x _ => ?_
  rw [cnt_one]
  by_cases h : x ∈ K <;> simp [h]
theorem less2 (hL : Ris L) (hK : Ris K) : ffX [⟨A, n, c, L⟩, ⟨B, m, d, K⟩] 0 = L.filter (fun x => decide (x ∉ K)) := by
  simp only [ffX]
  rw [if_pos (by simp [hL, hK])]
  refine List.filter_congr fun x _ => ?_
  rw [cnt_one]
  by_cases h : x ∈ K <;> simp [h]
theorem meet3 (hL : Ris L) (hK : Ris K) (hH : Ris H) {z : Int} (hz : z = 2) : ffX [⟨A, n, c, L⟩, ⟨B, m, d, K⟩, ⟨C, l, f, H⟩] z = L.filter (fun x => decide (x ∈ K ∧ x ∈ H)) := by
  subst hz
  simp only [ffX]
  rw [if_pos (by simp [hL, hK, hH])]
  refine List.filter_congr fun x _ => ?_
  rw [cnt_two]
  by_cases h : x ∈ K <;> by_cases k : x ∈ H <;> simp [h, k]
theorem unX_two (hL : Ris L) (hK : Ris K) : unX [⟨A, n, c, L⟩, ⟨B, m, d, K⟩] = ofX [] (L ++ K) := by
  unfold unX allT
  rw [if_pos (by simp [hL, hK])]
  simp
theorem unX_three (hL : Ris L) (hK : Ris K) (hH : Ris H) : unX [⟨A, n, c, L⟩, ⟨B, m, d, K⟩, ⟨C, l, f, H⟩] = ofX [] (L ++ (K ++ H)) := by
  unfold unX allT
  rw [if_pos (by simp [hL, hK, hH])]
  simp
theorem ckA_two (hL : Ris L) (hK : Ris K) : ckA [⟨A, n, c, L⟩, ⟨B, m, d, K⟩] = 0 := ckA_ok (by simp [hL, hK])
theorem ckA_three (hL : Ris L) (hK : Ris K) (hH : Ris H) : ckA [⟨A, n, c, L⟩, ⟨B, m, d, K⟩, ⟨C, l, f, H⟩] = 0 := ckA_ok (by simp [hL, hK, hH])
theorem ris_filter (hL : Ris L) (p : Tx → Bool) : Ris (L.filter p) := List.Pairwise.filter p hL

theorem alg1 (L K H : List Tx) : ofX [] (H ++ (L ++ K)) = ofX [] (L ++ (K ++ H)) := by
  refine Ris.unique (ofX_ris List.Pairwise.nil _) (ofX_ris List.Pairwise.nil _) fun x => ?_
  rw [ofX_mem, ofX_mem]
  by_cases h1 : x ∈ L <;> by_cases h2 : x ∈ K <;> by_cases h3 : x ∈ H <;> simp [h1, h2, h3]
theorem alg2 (hL : Ris L) (hK : Ris K) (H : List Tx) : K.filter (fun x => decide (x ∈ H ∧ x ∈ L)) = L.filter (fun x => decide (x ∈ K ∧ x ∈ H)) := by
  refine Ris.unique (ris_filter hK _) (ris_filter hL _) fun x => ?_
  by_cases h1 : x ∈ L <;> by_cases h2 : x ∈ K <;> by_cases h3 : x ∈ H <;> simp [h1, h2, h3]
theorem alg3 (hL : Ris L) (K : List Tx) : ofX [] (L.filter (fun x => decide (x ∈ K)) ++ L.filter (fun x => decide (x ∉ K))) = L := by
  refine Ris.unique (ofX_ris List.Pairwise.nil _) hL fun x => ?_
  rw [ofX_mem]
  by_cases h1 : x ∈ L <;> by_cases h2 : x ∈ K <;> simp [h1, h2]
theorem alg4 (L K : List Tx) : (L.filter (fun x => decide (x ∈ K))).filter (fun x => decide (x ∈ L.filter (fun x => decide (x ∉ K)))) = [] := by
  rw [List.filter_eq_nil_iff]
  intro x hx
  rw [List.mem_filter] at hx
  have h2 : x ∈ K := of_decide_eq_true hx.2
  simp [h2]
theorem alg5 (L K : List Tx) : (L.filter (fun x => decide (x ∈ K))).length + (L.filter (fun x => decide (x ∉ K))).length = L.length := by
  induction L with
  | nil => rfl
  | cons x L ih => by_cases h : x ∈ K <;> simp [h] at * <;> omega
end

/-- Rows of texts, laid by themselves. -/
theorem TtAt.lit {w : World} (S : List Rw) (hS : ∀ r ∈ S, TxAt w r.A r.n r.c r.L) (hm : S.length ≤ 1000) (h0 : 0 < S.length) (g : Nat) (hg : g = w.heap.size) : TtAt (w.alloc (.cells (S.map fun r => Value.slice r.A r.n r.c).toArray 22)) (some ⟨g, 0, none⟩) S.length S.length S := by
  subst hg
  have r := World.rowIs_alloc w (S.map fun r => Value.slice r.A r.n r.c).toArray 22 (fun j => (((S.map fun r => Value.slice r.A r.n r.c).toArray)[j]?).getD .nilFunc) (fun i hi => by
    rw [Array.getElem?_eq_getElem hi]
    rfl)
  refine ⟨rfl, Nat.le_refl _, by omega, fun e => (by cases e), fun y hy => (hS y hy).below ((Below.refl _ _).alloc (Nat.le_refl _) _), fun _ => ⟨w.heap.size, 0, rfl, r.lt, fun j y hy => ?_⟩⟩
  have hj := (List.getElem?_eq_some_iff.1 hy).1
  rw [Nat.zero_add, r.cell (i := j) (by simpa using hj)]
  simp [hy]

set_option maxRecDepth 100000 in
set_option maxHeartbeats 8000000 in
theorem pMeet_any {A : Option Addr} {n cp : Nat} {S : List Rw} (w : World) (h : TtAt w A n cp S) (hn : n ≤ 20) (hs : Sml S 1000) :
    Calls Try.prog 26 #[.slice A n cp] w fun e w' => ∃ A' k c', e = .returned (.tuple #[.slice A' k c', .int .i64 (ckA S)]) ∧ TxAt w' A' k c' (ffX S ((n : Int) - 1)) ∧ Below w.heap.size w w' := by
  have HC := Lib.hid (ofFirst_any w h hn hs ((n : Int) - 1))
  have hwv : IntKind.i64.wrap ((n : Int) - 1) = (n : Int) - 1 := IntWalk.i64_in _ (by omega)
  obtain ⟨M, hM⟩ : ∃ M, w.heap.size = M := ⟨_, rfl⟩
  rw [hM] at HC ⊢
  clear h hs hM
  go_enter Try.func26, Try.ntmps26
  go_wp2_with fail
  refine HC.out.mono ?_
  rintro e w1 ⟨A', k, c', rfl, h1, hb1⟩
  have H1 := Lib.hid h1
  have HB1 := Lib.hid hb1
  clear h1 hb1
  go_wp2
  go_ret2
  exact ⟨A', k, c', rfl, H1.out, HB1.out⟩

set_option maxRecDepth 100000 in
set_option maxHeartbeats 8000000 in
theorem pLess_any {A : Option Addr} {n cp : Nat} {S : List Rw} (w : World) (h : TtAt w A n cp S) (hn : n ≤ 20) (hs : Sml S 1000) :
    Calls Try.prog 28 #[.slice A n cp] w fun e w' => ∃ A' k c', e = .returned (.tuple #[.slice A' k c', .int .i64 (ckA S)]) ∧ TxAt w' A' k c' (ffX S 0) ∧ Below w.heap.size w w' := by
  have HC := Lib.hid (ofFirst_any w h hn hs 0)
  obtain ⟨M, hM⟩ : ∃ M, w.heap.size = M := ⟨_, rfl⟩
  rw [hM] at HC ⊢
  clear h hs hM
  go_enter Try.func28, Try.ntmps28
  go_wp2_with fail
  refine HC.out.mono ?_
  rintro e w1 ⟨A', k, c', rfl, h1, hb1⟩
  have H1 := Lib.hid h1
  have HB1 := Lib.hid hb1
  clear h1 hb1
  go_wp2
  go_ret2
  exact ⟨A', k, c', rfl, H1.out, HB1.out⟩

end Go.Proofs.Ytkobhlhkkpnmkaa
