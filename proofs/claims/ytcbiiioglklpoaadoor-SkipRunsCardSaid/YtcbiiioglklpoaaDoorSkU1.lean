/-
  Package skip: lists that no call made: isMade, read, Score, Rank, At, Len, Put, Del. Condition: the table of math/bits lies where the program laid it.
-/
import Derived.Test.YtcbiiioglklpoaaDoorSkC3
namespace Go.Proofs.YtcbiiioglklpoaaDoor
open Go.RowKit

/-- A list that no call made: none, or one with nothing in it. -/
def NoL (w : World) (V : Value) : Prop := V = .pointer none ∨ ∃ s, V = .pointer (some ⟨s, 0, none⟩) ∧ w.rowIs s 73 2 (fun _ => .pointer none)
theorem NoL.below {w w' : World} {V : Value} (h : NoL w V) (hb : Below w.heap.size w w') : NoL w' V := by
  rcases h with rfl | ⟨s, rfl, hr⟩
  · exact Or.inl rfl
  · exact Or.inr ⟨s, rfl, hr.of_block (hb.block s hr.lt)⟩

/-- A chain with no member. -/
def Emp (w : World) (c : Nat) : Prop := ∃ (h mb : Nat) (S : Nat → Nat → Value), w.rowIs c 95 4 (ckF 0 h mb 0) ∧ ChOn (lvS 0) w h [] S ∧ NMap w mb 0 (fun _ => none) 0 ∧ c ≠ h
theorem Emp.below {w w' : World} {c : Nat} (k : Emp w c) (hb : Below w.heap.size w w') : Emp w' c := by
  obtain ⟨h, mb, S, h1, h2, h3, h4⟩ := k
  exact ⟨h, mb, S, h1.of_block (hb.block c h1.lt), h2.below hb, h3.block (hb.block mb h3.lt), h4⟩

def TzB (w : World) : Prop := Tz w ∧ 0 < w.heap.size
theorem TzB.below {w w' : World} (h : TzB w) (hb : Below w.heap.size w w') : TzB w' := ⟨h.1.block (hb.block _ h.2), by have := h.2; have := hb.size; omega⟩

theorem eql_list_nil (w : World) (s : Nat) : (binOp .eql 38 (.pointer none) (.pointer (some ⟨s, 0, none⟩))).run Tryd.prog w = .ok (.bool false) w := by
  have h : ∀ d : Nat, (Op.equalIn (d + 1) 38 (.pointer none) (.pointer (some ⟨s, 0, none⟩))).run Tryd.prog w = .ok false w := fun d => by
    simp [Op.equalIn, run_underlying Tryd.underlying38]
  simp only [binOp]
  simp [Op.equal, Op.maxDepth, h 9999]

section
variable {w : World} {V : Value}

set_option maxRecDepth 100000 in
set_option maxHeartbeats 4000000 in
theorem nmade_any (hV : NoL w V) : Calls Tryd.prog 51 #[V] w fun e w' => e = .returned (.bool false) ∧ w' = w := by
  rcases hV with rfl | ⟨s, rfl, hd⟩
  · go_enter Tryd.func51, Tryd.ntmps51
    go_wp2
    go_ret
    exact ⟨rfl, rfl⟩
  · have c0 := hd.cell (i := 0) (by omega)
    have he := eql_list_nil w s
    clear hd
    go_enter Tryd.func51, Tryd.ntmps51
    go_wp2
    go_ret
    exact ⟨rfl, rfl⟩

set_option maxRecDepth 100000 in
set_option maxHeartbeats 4000000 in
theorem nread_any (hV : NoL w V) (hz : TzB w) : Calls Tryd.prog 50 #[V] w fun e w' => ∃ c, e = .returned (.pointer (some ⟨c, 0, none⟩)) ∧ Emp w' c ∧ w.heap.size ≤ c ∧ Below w.heap.size w w' := by
  have HM := Lib.hid (nmade_any hV)
  have hc := chainOf_any 0 (by omega) w (ScAt.nil w) (by omega) (fun x hx => by simp at hx) hz.1 hz.2
  rw [show (((0 : Nat) : Nat) : Int) = 0 from rfl] at hc
  have HC := Lib.hid hc
  clear hc hz hV
  go_enter Tryd.func50, Tryd.ntmps50
  go_wp2_with fail
  refine HM.out.mono ?_
  rintro e w1 ⟨rfl, rfl⟩
  go_wp2_with fail
  refine HC.out.mono ?_
  rintro e w2 ⟨c, h, mb, ns, S, g, sz, rfl, hck, hns, hmi, hb⟩
  obtain rfl : ns = [] := List.map_eq_nil_iff.1 hns
  obtain rfl : g = fun _ => none := funext fun m => by
    have h2 := hmi.has m
    cases hq : g m with
    | none => rfl
    | some b => rw [hq] at h2; exact absurd (h2.1 rfl) (by simp)
  obtain rfl : sz = 0 := by have := hmi.le; simpa using this
  have HE : Hid (Emp w2 c ∧ w1.heap.size ≤ c ∧ Below w1.heap.size w1 w2) := ⟨⟨h, mb, S, hck.blk, hck.ch, hck.mp, fun e => hck.nec (by rw [e]; exact List.mem_cons_self ..)⟩, hck.loc, hb⟩
  clear hck hns hmi hb
  go_wp2
  go_ret
  exact ⟨c, rfl, HE.out⟩

set_option maxRecDepth 100000 in
set_option maxHeartbeats 4000000 in
theorem nlen_any (hV : NoL w V) (hz : TzB w) : Calls Tryd.prog 20 #[V] w fun e w' => e = .returned (.int .i64 0) ∧ Below w.heap.size w w' := by
  have HR := Lib.hid (nread_any hV hz)
  clear hV hz
  go_enter Tryd.func20, Tryd.ntmps20
  go_wp2_with fail
  refine HR.out.mono ?_
  rintro e w1 ⟨c, rfl, ⟨h, mb, S, h1, h2, h3, h4⟩, _, hb⟩
  have c2 := h1.cell (i := 2) (by omega)
  rw [show ckF 0 h mb 0 2 = .map (some mb) from rfl] at c2
  obtain ⟨D, hD, _, _, hs⟩ := h3
  have HD := Lib.hid hD
  have HS := Lib.hid hs
  have HB := Lib.hid hb
  clear h1 h2 hD hs hb
  go_wp2_with (first | (at_len; (refine wpList_len_own (H := Nat) _ rfl _ 93 rfl 9 92 Tryd.underlying93 ndElem mb 0 D rfl HD.out ?_; rw [HS.out])) | fail)
  go_wp2
  go_ret
  exact ⟨rfl, HB.out⟩

set_option maxRecDepth 100000 in
set_option maxHeartbeats 4000000 in
theorem nscore_any (hV : NoL w V) (hz : TzB w) (SM : ByteArray) (hS : SM.size ≤ 9223372036854775807) : Calls Tryd.prog 25 #[V, .string SM] w fun e w' => e = .returned (.tuple #[.int .i64 0, .bool false]) ∧ Below w.heap.size w w' := by
  have HR := Lib.hid (nread_any hV hz)
  have HSM := Lib.hid hS
  clear hV hz hS
  go_enter Tryd.func25, Tryd.ntmps25
  go_wp2_with fail
  refine HR.out.mono ?_
  rintro e w1 ⟨c, rfl, ⟨h, mb, S, h1, h2, h3, h4⟩, _, hb⟩
  have c2 := h1.cell (i := 2) (by omega)
  rw [show ckF 0 h mb 0 2 = .map (some mb) from rfl] at c2
  have HLK' : (Instr.lookup 93 (.map (some mb)) (.string SM) false).run Tryd.prog w1 = .ok (.pointer none) w1 := nm_look h3 SM HSM.out
  have HB := Lib.hid hb
  clear h1 h2 h3 hb
  go_wp2
  go_ret2
  exact ⟨rfl, HB.out⟩

set_option maxRecDepth 100000 in
set_option maxHeartbeats 4000000 in
theorem nrank_any (hV : NoL w V) (hz : TzB w) (SM : ByteArray) (hS : SM.size ≤ 9223372036854775807) : Calls Tryd.prog 29 #[V, .string SM] w fun e w' => e = .returned (.tuple #[.int .i64 0, .bool false]) ∧ Below w.heap.size w w' := by
  have HR := Lib.hid (nread_any hV hz)
  have HSM := Lib.hid hS
  clear hV hz hS
  go_enter Tryd.func29, Tryd.ntmps29
  go_wp2_with fail
  refine HR.out.mono ?_
  rintro e w1 ⟨c, rfl, ⟨h, mb, S, h1, h2, h3, h4⟩, _, hb⟩
  have c2 := h1.cell (i := 2) (by omega)
  rw [show ckF 0 h mb 0 2 = .map (some mb) from rfl] at c2
  have HLK' : (Instr.lookup 93 (.map (some mb)) (.string SM) false).run Tryd.prog w1 = .ok (.pointer none) w1 := nm_look h3 SM HSM.out
  have HB := Lib.hid hb
  clear h1 h2 h3 hb
  go_wp2
  go_ret2
  exact ⟨rfl, HB.out⟩

set_option maxRecDepth 100000 in
set_option maxHeartbeats 4000000 in
theorem nat_any (hV : NoL w V) (hz : TzB w) (rank : Int) : Calls Tryd.prog 30 #[V, .int .i64 rank] w fun e w' => e = .returned (.tuple #[.agg #[.string ⟨#[]⟩, .int .i64 0], .bool false]) ∧ Below w.heap.size w w' := by
  obtain ⟨wa, hwa⟩ : ∃ wa, w.alloc (.cells #[.string ⟨#[]⟩, .int .i64 0] 47) = wa := ⟨_, rfl⟩
  have hba : Below w.heap.size w wa := by rw [← hwa]; exact (Below.refl _ _).alloc (Nat.le_refl _) _
  have sa : wa.heap.size = w.heap.size + 1 := by rw [← hwa]; simp
  have ra := rows2 (w := w) (t := 47) (.string ⟨#[]⟩) (.int .i64 0) (fun i => if i = 0 then .string ⟨#[]⟩ else .int .i64 0) rfl rfl
  rw [hwa] at ra
  have HR := Lib.hid (nread_any (hV.below hba) (hz.below hba))
  have HWA := Lib.hid hwa
  have HBA := Lib.hid hba
  have HSA := Lib.hid sa
  have HRA := Lib.hid ra
  obtain ⟨M, hM⟩ : ∃ M, w.heap.size = M := ⟨_, rfl⟩
  have HMh := Lib.hid hM
  rw [hM] at HBA HSA HRA ⊢
  clear hV hz hwa hba sa ra
  go_enter Tryd.func30, Tryd.ntmps30
  go_wp2_with fail
  rw [HWA.out]
  refine HR.out.mono ?_
  rintro e w1 ⟨c, rfl, ⟨h, mb, S, h1, h2, h3, h4⟩, _, hb⟩
  have HAT := Lib.hid (at_any rank w1 (lvS_pos 0) (by simp) (h1.cell (i := 1) (by omega)) h2)
  have hn : nodeAt [] rank = .pointer none := by unfold nodeAt; split <;> rfl
  rw [hn] at HAT
  have HB := Lib.hid hb
  clear h1 h2 h3 hb hn
  go_wp2_with fail
  refine HAT.out.mono ?_
  rintro e w2 ⟨rfl, hb2⟩
  have hb3 := HB.out.trans (hb2.mono HB.out.size)
  have r2 := HRA.out.of_block (hb3.block M HRA.out.lt)
  have c0 := r2.cell (i := 0) (by omega)
  have c1 := r2.cell (i := 1) (by omega)
  have f0 := r2.frozen 0
  have f1 := r2.frozen 1
  have HB3 := Lib.hid (HBA.out.trans (hb3.mono (by have := HSA.out; omega)))
  clear r2 hb3 hb2
  go_wp2
  exact bodyPost_ret (v := .tuple #[.agg #[.string ⟨#[]⟩, .int .i64 0], .bool false]) (by simp [results, Tryd.results30, go_sem, c0, c1]) rfl ⟨rfl, (HB3.out.setCell (p := ⟨M, 0, none⟩) (Nat.le_refl _) _).setCell (p := ⟨M, 1, none⟩) (Nat.le_refl _) _⟩

set_option maxRecDepth 100000 in
set_option maxHeartbeats 4000000 in
theorem nput_any (hV : NoL w V) (SM : ByteArray) (n : Int) : Calls Tryd.prog 21 #[V, .string SM, .int .i64 n] w fun e w' => e = .returned (.bool false) ∧ w' = w := by
  have HM := Lib.hid (nmade_any hV)
  clear hV
  go_enter Tryd.func21, Tryd.ntmps21
  go_wp2_with fail
  refine HM.out.mono ?_
  rintro e w1 ⟨rfl, rfl⟩
  go_wp2
  go_ret
  exact ⟨rfl, rfl⟩

set_option maxRecDepth 100000 in
set_option maxHeartbeats 4000000 in
theorem ndel_any (hV : NoL w V) (hz : TzB w) (SM : ByteArray) (hS : SM.size ≤ 9223372036854775807) : Calls Tryd.prog 27 #[V, .string SM] w fun e w' => e = .returned (.bool false) ∧ Below w.heap.size w w' := by
  have HR := Lib.hid (nscore_any hV hz SM hS)
  clear hV hz hS
  go_enter Tryd.func27, Tryd.ntmps27
  go_wp2_with fail
  refine HR.out.mono ?_
  rintro e w1 ⟨rfl, hb⟩
  have HB := Lib.hid hb
  clear hb
  go_wp2
  go_ret
  exact ⟨rfl, HB.out⟩

end

end Go.Proofs.YtcbiiioglklpoaaDoor
