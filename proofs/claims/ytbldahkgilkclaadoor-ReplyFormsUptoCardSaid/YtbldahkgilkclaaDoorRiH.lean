/-
  A reply as a row of this seat hands it on: its reading is a tree, no greater than the reading is. No condition but those typed.
-/
import Derived.Test.YtbldahkgilkclaaDoorRiA
import Derived.Test.YtbldahkgilkclaaDoorBase
import Derived.DataReads
namespace Go.Proofs.YtbldahkgilkclaaDoor
open Go.ChangeShapes Go.WideShapes Go.ChangeAt Go.RowKit

theorem i64_wf {n : Int} (h : (Lit.int .i64 n).wf = true) : -9223372036854775808 ≤ n ∧ n ≤ 9223372036854775807 := by
  simp only [Lit.wf, IntKind.min, IntKind.max, IntKind.signed, IntKind.bits, Bool.and_eq_true] at h
  simpa using h

/-- So many things, one for each place. -/
theorem choose_list {α : Type} {P : Nat → α → Prop} : ∀ (n : Nat), (∀ i, i < n → ∃ x, P i x) → ∃ l : List α, l.length = n ∧ ∀ (i : Nat) (x : α), l[i]? = some x → P i x
  | 0, _ => ⟨[], rfl, fun i x h => by simp at h⟩
  | n + 1, h => by
    obtain ⟨l, hl, hp⟩ := choose_list n (fun i hi => h i (by omega))
    obtain ⟨x, hx⟩ := h n (by omega)
    refine ⟨l ++ [x], by rw [List.length_append, hl]; rfl, fun i y hy => ?_⟩
    by_cases hi : i < n
    · rw [List.getElem?_append_left (by omega)] at hy
      exact hp i y hy
    · have hlt := (List.getElem?_eq_some_iff.1 hy).1
      rw [List.length_append, hl] at hlt
      obtain rfl : i = n := by simp at hlt; omega
      rw [List.getElem?_append_right (by omega), hl, Nat.sub_self] at hy
      simp only [List.getElem?_cons_zero, Option.some.injEq] at hy
      rw [← hy]
      exact hx

theorem bulkIs_bound {H : Type} : ∀ (l : List RI) (es : List (DataW H)), l.length = es.length → (∀ (i : Nat) (x : RI) (d : DataW H), l[i]? = some x → es[i]? = some d → bulkI x ≤ Rows.uptoBulk d) → bulkI.bulkIs l ≤ Rows.uptoBulkAll es
  | [], _, _, _ => by rw [bulkI.bulkIs]; exact Nat.zero_le _
  | x :: l, d :: es, hl, h => by
    rw [bulkI.bulkIs, Rows.uptoBulkAll]
    have h1 := h 0 x d rfl rfl
    have h2 := bulkIs_bound l es (by simpa using hl) (fun i y e hy he => h (i + 1) y e (by simpa using hy) (by simpa using he))
    omega
  | _ :: _, [], hl, _ => by simp at hl

theorem cells_reply : Tryd.prog.cellsOf 25 = 4 := by kernel_rfl

set_option maxRecDepth 100000 in
theorem open_reply {H : Type} {enc : TypeId × Value → H} {W : World} {base : Nat} {sp : Nat → Bool} {held : Bool} : ∀ (fuel : Nat) (cs : List Value) (y : DataW H × List MemPlace), DataW.trod enc Tryd.prog W base sp held fuel 25 cs = some y →
    ∃ x : RI, RepI W x cs ∧ bulkI x ≤ Rows.uptoBulk y.1 := by
  intro fuel
  induction fuel using Nat.strongRecOn with
  | _ fuel ih =>
    intro cs y h
    obtain ⟨xs, n, rfl, rfl, hlen, hxl, hf⟩ := DataW.trod_struct Tryd.underlying25 h
    rw [cells_reply] at hlen
    obtain ⟨c0, c1, c2, c3, rfl⟩ : ∃ c0 c1 c2 c3, cs = [c0, c1, c2, c3] := by
      match cs, hlen with
      | [a, b, c, d], _ => exact ⟨a, b, c, d, rfl⟩
    obtain ⟨x0, x1, x2, x3, rfl⟩ : ∃ x0 x1 x2 x3, xs = [x0, x1, x2, x3] := by
      match xs, hxl with
      | [a, b, c, d], _ => exact ⟨a, b, c, d, rfl⟩
    have h0 := hf 0 _ rfl
    have h1 := hf 1 _ rfl
    have h2 := hf 2 _ rfl
    have h3 := hf 3 _ rfl
    simp only [List.getElem?_cons_zero, List.getElem?_cons_succ] at h0 h1 h2 h3
    obtain ⟨k, hk, rfl, _⟩ := DataW.trod_int Tryd.underlying22 h0
    obtain ⟨T, hT, rfl, _⟩ := DataW.trod_string Tryd.underlying9 h1
    obtain ⟨N, hN, rfl, hNw⟩ := DataW.trod_int Tryd.underlying2 h2
    obtain ⟨n0, n1⟩ := i64_wf hNw
    injection hk with hk _
    injection hT with hT _
    injection hN with hN _
    subst hk hT hN
    rcases DataW.trod_slice Tryd.underlying23 h3 with ⟨hc3, rfl⟩ | ⟨a, len, cap, elems, rest, m, rfl, hc3, rfl, hb, hlc, hcm, hel, hall, _, _⟩
    · injection hc3 with hc3 _
      subst hc3
      refine ⟨.node k T.data.toList N [], .node k _ N [] T none 0 0 0 (fun _ => []) rfl n0 n1 (Nat.le_refl _) (by omega) (fun h => absurd h (Nat.lt_irrefl 0)) (fun j hj => absurd hj (Nat.not_lt_zero j)) (fun j f hj => absurd hj (Nat.not_lt_zero j)) (fun j x hx => by simp at hx), ?_⟩
      rw [bulkI]
      simp only [List.map_cons, List.map_nil, Rows.uptoBulk, Rows.uptoBulkAll, bulkI.bulkIs]
      omega
    · injection hc3 with hc3 _
      subst hc3
      have hex : ∀ i, i < len → ∃ p : RI × (List Value × (DataW H × List MemPlace)), W.cells? base (a.add (i * 4)) 4 = some p.2.1 ∧ elems[i]? = some p.2.2 ∧ RepI W p.1 p.2.1 ∧ bulkI p.1 ≤ Rows.uptoBulk p.2.2.1 := by
        intro i hi
        have hq := hall i hi
        rw [cells_reply] at hq
        obtain ⟨e, he⟩ : ∃ e, elems[i]? = some e := ⟨_, List.getElem?_eq_getElem (by rw [hel]; exact hi)⟩
        rw [he] at hq
        obtain ⟨cs', hcs', hd⟩ := Option.bind_eq_some_iff.1 hq
        obtain ⟨x, hx1, hx2⟩ := ih m (by omega) cs' e hd
        exact ⟨(x, (cs', e)), hcs', he, hx1, hx2⟩
      obtain ⟨ps, hps, hp⟩ := choose_list len hex
      obtain ⟨g, o, spot⟩ := a
      clear h hf h0 h1 h2 h3 hall hex
      have hps4 : ∀ (j : Nat) (p : RI × (List Value × (DataW H × List MemPlace))), ps[j]? = some p → p.2.1.length = 4 := fun j p hj => (World.cells?_some (hp j p hj).1).2.1
      have hspot : 0 < len → spot = none := fun h => by
        obtain ⟨p, hpj⟩ : ∃ p, ps[0]? = some p := ⟨_, List.getElem?_eq_getElem (by rw [hps]; exact h)⟩
        have h4 := hps4 0 p hpj
        have h5 := (World.cells?_some (hp 0 p hpj).1).2.2 0 (by decide)
        rw [List.getElem?_eq_getElem (by omega)] at h5
        have h6 := World.cell?_spot h5
        cases spot with
        | none => rfl
        | some s => simp [Addr.add] at h6
      have hcell : spot = none → ∀ (j f : Nat) (p : RI × (List Value × (DataW H × List MemPlace))), ps[j]? = some p → f < 4 → W.cell? ⟨g, o + j * 4 + f, none⟩ = p.2.1[f]? := fun hs j f p hj hf => by
        subst hs
        have := (World.cells?_some (hp j p hj).1).2.2 f hf
        rw [← this, Go.WideShapes.add_plain, Go.WideShapes.add_plain]
      refine ⟨.node k T.data.toList N (ps.map (·.1)), ?_, ?_⟩
      · have hlm : (ps.map (·.1)).length = len := by rw [List.length_map, hps]
        have := RepI.node (w := W) k T.data.toList N (ps.map (·.1)) T (some ⟨g, o, spot⟩) g o cap (fun j => match ps[j]? with | some p => p.2.1 | none => []) rfl n0 n1 (by rw [hlm]; exact hlc) (by unfold maxLen at hcm; omega)
          (fun h => by
            rw [hlm] at h
            obtain ⟨p, hpj⟩ : ∃ p, ps[0]? = some p := ⟨_, List.getElem?_eq_getElem (by rw [hps]; exact h)⟩
            have h4 := hps4 0 p hpj
            have h5 := hcell (hspot h) 0 0 p hpj (by decide)
            rw [List.getElem?_eq_getElem (by omega)] at h5
            exact ⟨by rw [hspot h], World.block_lt_of_cell? W _ h5⟩)
          (fun j hj => by
            rw [hlm] at hj
            obtain ⟨p, hpj⟩ : ∃ p, ps[j]? = some p := ⟨_, List.getElem?_eq_getElem (by rw [hps]; exact hj)⟩
            simp only [hpj]
            exact hps4 j p hpj)
          (fun j f hj hf => by
            rw [hlm] at hj
            obtain ⟨p, hpj⟩ : ∃ p, ps[j]? = some p := ⟨_, List.getElem?_eq_getElem (by rw [hps]; exact hj)⟩
            simp only [hpj]
            exact hcell (hspot (by omega)) j f p hpj hf)
          (fun j x hx => by
            rw [List.getElem?_map] at hx
            obtain ⟨p, hpj, rfl⟩ := Option.map_eq_some_iff.1 hx
            simp only [hpj]
            exact (hp j p hpj).2.2.1)
        rw [hlm] at this
        exact this
      · have hb := bulkIs_bound (ps.map (·.1)) (elems.map (·.1)) (by rw [List.length_map, List.length_map, hps, hel]) (fun i x d hx hd => by
          rw [List.getElem?_map] at hx hd
          obtain ⟨p, hpj, rfl⟩ := Option.map_eq_some_iff.1 hx
          obtain ⟨e, he, rfl⟩ := Option.map_eq_some_iff.1 hd
          obtain ⟨_, q2, _, q4⟩ := hp i p hpj
          rw [q2] at he
          injection he with he
          rw [← he]
          exact q4)
        rw [bulkI]
        simp only [List.map_cons, List.map_nil, Rows.uptoBulk, Rows.uptoBulkAll]
        omega

end Go.Proofs.YtbldahkgilkclaaDoor
