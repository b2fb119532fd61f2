/-
  Package table (values: string): the walks of slices.Delete (one item of a bucket) and Del. Conditions: the table lies in memory as it reads, and keeps what tables keep; keys of at most 1000 bytes.
-/
import Derived.Test.YtcjoakbaldeaoaaGTpS
import Derived.Test.YtcjoakbaldeaoaaTbD
namespace Go.Proofs.Ytcjoakbaldeaoaa
open Go.RowKit

set_option maxRecDepth 100000 in
set_option maxHeartbeats 8000000 in
theorem zpairS : ∀ w, (zeroValue 90).run Try.prog w = .ok (.agg #[.string ⟨#[]⟩, .string ⟨#[]⟩]) w := Try.zeroValue90

set_option maxRecDepth 100000 in
set_option maxHeartbeats 8000000 in
theorem sdeleteS_any {base g n cap j : Nat} {l : List (List UInt8 × (List UInt8))} (w : World) (hown : w.ownsRow base 90 2 (.slice (some ⟨g, 0, none⟩) n cap) n (encIt KS.enc l)) (hn : l.length = n) (hnm : n ≤ 400000) (hj : j < n) :
    Calls Try.prog 65 #[.slice (some ⟨g, 0, none⟩) n cap, .int .i64 j, .int .i64 (j + 1 : Nat)] w fun e w' => e = .returned (.slice (some ⟨g, 0, none⟩) (n - 1) cap) ∧ w'.ownsRow base 90 2 (.slice (some ⟨g, 0, none⟩) (n - 1) cap) (n - 1) (encIt KS.enc (l.take j ++ l.drop (j + 1))) ∧ w.grownBy w' (some g) := by
  obtain ⟨hnc, hcm⟩ : n ≤ cap ∧ cap ≤ 9223372036854775807 := by
    rcases hown.2 with ⟨h1, _⟩ | ⟨g', cap', cur, hv, _, _, h1, h2, _⟩
    · cases h1
    · injection hv with _ _ e3
      subst e3
      exact ⟨h1, by simp [maxLen] at h2; omega⟩
  obtain ⟨ip, hip, hyp⟩ := Option.map_eq_some_iff.1 info_pairS
  simp only [Prod.mk.injEq] at hyp
  have HIP := Lib.hid hyp
  have HOWN : Hid (w.drew.ownsRow base 90 2 (.slice (some ⟨g, 0, none⟩) n cap) n (encIt KS.enc l)) := hown
  obtain ⟨news, hnews⟩ : ∃ news, news = encIt KS.enc (l.drop (j + 1)) := ⟨_, rfl⟩
  have hlen : news.length = (n - (j + 1)) * 2 := by rw [hnews, encIt_length, List.length_drop, hn]
  obtain ⟨A, hA, hsrc⟩ : ∃ A : Addr, (if cap = j + 1 then some (⟨g, 0, none⟩ : Addr) else some ⟨g, (j + 1) * 2, none⟩) = some A ∧ Hid (∀ t u, news[t]? = some u → w.drew.cell? (A.add t) = some u) := by
    by_cases h : cap = j + 1
    · refine ⟨⟨g, 0, none⟩, by simp [h], fun t u hu => ?_⟩
      have h0 : news.length = 0 := by rw [hlen]; omega
      rw [List.length_eq_zero_iff.1 h0] at hu
      simp at hu
    · refine ⟨⟨g, (j + 1) * 2, none⟩, by simp [h], fun t u hu => ?_⟩
      have ht := (List.getElem?_eq_some_iff.1 hu).1
      rw [hnews, ← encIt_drop, List.getElem?_drop] at hu
      rw [Addr.add_lit, World.ownsRow.cellAt HOWN.out _ (by omega)]
      exact hu
  have s1 := Lib.hid hlen
  have s2 : Hid (∀ u ∈ news, u.oneCell' = true) := by rw [hnews]; exact encIt_mem KS.enc (fun _ => rfl) _
  have s3 : Hid (∀ t, t < news.length → (w.drew.cell? ⟨g, 0 + j * 2 + t, none⟩).isSome = true ∧ w.drew.frozen? ⟨g, 0 + j * 2 + t, none⟩ = false) := by
    intro t ht
    rw [hlen] at ht
    refine ⟨?_, World.ownsRow.frozenAt HOWN.out _⟩
    have hlt : 0 + j * 2 + t < (encIt KS.enc l).length := by rw [encIt_length, hn]; omega
    rw [World.ownsRow.cellAt HOWN.out _ (by omega), List.getElem?_eq_getElem hlt]
    rfl
  obtain ⟨W1, hW1⟩ : ∃ W1, W1 = w.drew.setCells g (0 + j * 2) news := ⟨_, rfl⟩
  obtain ⟨k1, k2⟩ := ownsRow_setCells news (0 + j * 2) w.drew _ HOWN.out
  rw [← hW1] at k1 k2
  have hcl : ∀ ty, (Builtin.clear_ #[101] ty #[.slice (some ⟨g, (n - 1) * 2, none⟩) 1 (cap - (n - 1))]).run Try.prog W1 = .ok (.tuple #[]) (W1.setCells g ((n - 1) * 2) [.string ⟨#[]⟩, .string ⟨#[]⟩]) := fun ty =>
    run_clear_one W1 _ _ ty (.agg #[.string ⟨#[]⟩, .string ⟨#[]⟩]) Try.underlying101 zpairS [.string ⟨#[]⟩, .string ⟨#[]⟩] rfl (by simp [Value.oneCell']) g _ _ (fun t ht => by
      have ht : t < 2 := ht
      have hlt : (n - 1) * 2 + t < (setsL (encIt KS.enc l) (0 + j * 2) news).length := by rw [setsL_length, encIt_length, hn]; omega
      rw [World.ownsRow.cellAt k1 _ (by omega), List.getElem?_eq_getElem hlt]
      rfl) (fun t _ => World.ownsRow.frozenAt k1 _)
  obtain ⟨k3, k4⟩ := ownsRow_setCells [.string ⟨#[]⟩, .string ⟨#[]⟩] ((n - 1) * 2) W1 _ k1
  have k5 := ownsRow_cut k3 (n' := n - 1) (by omega)
  have hdc := del_cells KS.enc l j (by omega) [.string ⟨#[]⟩, .string ⟨#[]⟩] rfl
  rw [hn] at hdc
  rw [hnews, show 0 + j * 2 = j * 2 from by omega, hdc] at k5
  have HK5 := Lib.hid k5
  have HK4 : Hid (w.grownBy (W1.setCells g ((n - 1) * 2) [.string ⟨#[]⟩, .string ⟨#[]⟩]) (some g)) := by
    have q := k2.trans k4
    exact ⟨q.os, q.tape, q.output, q.size, q.block⟩
  have HW : Hid (W1 = w.drew.setCells g (0 + j * 2) news) := hW1
  obtain ⟨j1, hj1⟩ : ∃ q, j + 1 = q := ⟨_, rfl⟩
  obtain ⟨n1, hn1⟩ : ∃ q, n - 1 = q := ⟨_, rfl⟩
  have hm1 : n - (j + 1) = n - j1 := by rw [hj1]
  rw [hj1] at hA ⊢ s1
  rw [hn1] at hcl HK5 HK4 ⊢
  rw [hj1] at HK5
  have hjj : j ≤ cap := by omega
  have hjc : j1 ≤ cap := by omega
  have hjn : j1 ≤ n := by omega
  have hnn : j + (n - j1) = n1 := by omega
  have hn1c : ¬ cap = n1 := by omega
  have hnn1 : n - n1 = 1 := by omega
  clear hown hn hyp hnews hlen k1 k2 k3 k4 k5 hdc hW1 hm1
  go_enter Try.func65, Try.ntmps65
  go_wp2_with fail
  go_region_law (refine step_append_room rfl (.tmp 22) (.tmp 25) 101 rfl 90 ip 2 Try.underlying101 hip HIP.out.2.1 g 0 j cap (by simp [Act.eval, Act.put]) A (n - j1) (cap - j1) news (by simp [Act.eval, Act.put]) s1.out hsrc.out s2.out (by omega) s3.out ?_; rw [← HW.out, hnn])
  go_wp2
  go_ret
  exact ⟨rfl, HK5.out, HK4.out⟩

set_option maxRecDepth 100000 in
set_option maxHeartbeats 8000000 in
theorem delS_any {base Q seed m : Nat} {ow : Own} {t : Tb (List UInt8)} {gA gB : Nat} {sA sB : Nat → Value} (hs : seed < 18446744073709551616) (k : List UInt8) (K : ByteArray) (hK : K.data.toList = k) (hK63 : K.size ≤ 1000) (w : World) (h : PT KS w base ow Q 86 seed t gA sA gB sB) (hg : Good (hashT seed) m t) (hm : m ≤ 50000) (hks : KeysT (fun k => k.length ≤ 1000) t) :
    Calls Try.prog 33 #[.pointer (some ⟨Q, 0, none⟩), .string K] w fun e w' => e = .returned (.bool (lookT (hashT seed) (stepT (hashT seed) t) k).isSome) ∧ ∃ ow' gA' sA' gB' sB', PT KS w' base ow' Q 86 seed (delS (hashT seed) (stepT (hashT seed) t) k) gA' sA' gB' sB' ∧ Turns ow ow' w w' := by
  have c0 : w.cell? ⟨Q, 0, none⟩ = some (.pointer (some ⟨Q, 0, none⟩)) := h.hd.cell (by omega)
  have HM := Lib.hid (isMadeS_any Q w c0)
  have HMO := Lib.hid (moveS_any hs w h hg (by omega) (fun x hx => by have := hks.1.flat x hx; omega))
  have HG2 := Lib.hid (good_step hg)
  obtain ⟨t2, ht2⟩ : ∃ t2, stepT (hashT seed) t = t2 := ⟨_, rfl⟩
  rw [ht2] at HMO HG2 ⊢
  have HKK := Lib.hid hK
  clear h hg hks c0 ht2
  go_enter Try.func33, Try.ntmps33
  go_wp2_with fail
  refine HM.out.mono ?_
  rintro e w1 ⟨rfl, rfl⟩
  go_wp2_with fail
  refine HMO.out.mono ?_
  rintro e w2 ⟨rfl, o2, gA2, sA2, gB2, sB2, hp2, hu2⟩
  have HP2 := Lib.hid hp2
  have HU2 := Lib.hid hu2
  have HWH := Lib.hid (whereS_any hs k K HKK.out (by omega) w2 hp2 HG2.out (by omega))
  rcases found_or_fresh hp2 HG2.out.kept k with ⟨g, r, l, mk, RX, sX, RY, gY, sY, j, x, hf⟩ | ⟨g, r, l, mk, RX, sX, RY, gY, sY, hf⟩
  · have HF := Lib.hid hf
    rw [hf.wh] at HWH
    dsimp only at HWH
    clear hf hp2 hu2
    go_wp2_with fail
    refine HWH.out.mono ?_
    rintro e w3 ⟨rfl, hb3⟩
    have hon := HF.out.side.on.below hb3
    have HON := Lib.hid hon
    have HB3 := Lib.hid hb3
    obtain ⟨b, cc, hsX, hle, hcc, hbl, _, hv⟩ := TbOn.itemS hon HF.out.side.at_ HF.out.it
    have hlt := (List.getElem?_eq_some_iff.1 HF.out.side.at_).1
    have hrow := (hon.a.row (by omega)).cell hlt
    have hga := (hon.a.row (by omega)).lt
    have hjl := (List.getElem?_eq_some_iff.1 HF.out.it).1
    have hbk := hon.a.bkt r l HF.out.side.at_
    have hbg := hon.bA HF.out.side.at_ (b := b) (by rw [hsX]; rfl)
    have HLN := Lib.hid (HF.out.side.le HG2.out.cnt)
    have HLM := Lib.hid (HF.out.side.len _ _ HG2.out)
    rw [hsX] at hbk
    have HSX := Lib.hid hsX
    rw [hsX] at hrow
    have HDL := Lib.hid (fun W (hW : Below w3.heap.size w3 W) => sdeleteS_any (l := l) (j := j) W (ownsRow_of_block hbk (fun q hq => by injection hq with hq; subst hq; exact hW.block _ hbl)) rfl (by have := HLM.out; omega) hjl)
    obtain ⟨n, hn⟩ : ∃ n, l.length = n := ⟨_, rfl⟩
    rw [hn] at hrow hle hjl HDL HLN HLM
    have HN := Lib.hid hn
    have HROW := Lib.hid hrow
    obtain ⟨j1, hj1⟩ : ∃ q, j + 1 = q := ⟨_, rfl⟩
    have hwj : IntKind.i64.wrap ((j : Int) + 1) = (j1 : Int) := by have := HLM.out; rw [IntWalk.i64_in _ (by omega)]; omega
    rw [hj1] at HDL
    clear hon hb3 hsX hlt hn hv hbk
    go_wp2_with fail
    refine (HDL.out _ (Below.refl _ _)).mono ?_
    rintro e w4 ⟨rfl, hown, hgr⟩
    have hsz4 := hgr.size
    have p4 : w4.cell? ⟨g, r, none⟩ = some (.slice (some ⟨b, 0, none⟩) n cc) := (World.cell?_of_block (a := ⟨g, r, none⟩) (hgr.block g hga (fun q => by injection q with q; exact hbg q.symm))).trans HROW.out
    have pf : w4.frozen? ⟨g, r, none⟩ = false := (World.frozen?_of_block (a := ⟨g, r, none⟩) (hgr.block g hga (fun q => by injection q with q; exact hbg q.symm))).trans ((HON.out.a.row (by have := (List.getElem?_eq_some_iff.1 HF.out.side.at_).1; omega)).frozen r)
    obtain ⟨o6, h1, h2⟩ := TbOn.store HON.out (l' := l.take j ++ l.drop j1) (v' := .slice (some ⟨b, 0, none⟩) (n - 1) cc) HF.out.side.at_ (by rw [HSX.out]; exact hgr) (by
      rw [List.length_append, List.length_take, List.length_drop, HN.out, show min j n + (n - j1) = n - 1 from by omega]
      exact hown) (Or.inr (Or.inl (by rw [HSX.out]; rfl)))
    obtain ⟨gA6, sA6, gB6, sB6, h3⟩ := HF.out.side.back _ _ _ _ h1
    have HU6 := Lib.hid (HU2.out.trans ((Turns.of_below o2 HB3.out).trans h2))
    obtain ⟨w6, hw6⟩ : ∃ w6, w4.setCell ⟨g, r, none⟩ (.slice (some ⟨b, 0, none⟩) (n - 1) cc) = w6 := ⟨_, rfl⟩
    rw [hw6] at HU6 h3
    have H6 := Lib.hid h3
    have HW6 := Lib.hid hw6
    have e2 : w6.cell? ⟨Q, 2, none⟩ = some (.int .i64 (mk (l.take j ++ l.drop j1)).n) := h3.hd.cell (by omega)
    have ef := h3.hd.frozen 2
    rw [HF.out.side.n] at e2
    obtain ⟨q1, hq1⟩ : ∃ q, t2.n - 1 = q := ⟨_, rfl⟩
    have hnm := HG2.out.n
    have hwr : IntKind.i64.wrap ((t2.n : Int) - 1) = (q1 : Int) := by have := HLN.out; rw [IntWalk.i64_in _ (by omega)]; omega
    have H7 := Lib.hid (H6.out.setN q1)
    have HGW := Lib.hid (fun W (hP : PT KS W base o6 Q 86 seed { mk (l.take j ++ l.drop j1) with n := q1 } gA6 sA6 gB6 sB6) => shrinkS_any W hP (by show 0 < (mk (l.take j ++ l.drop j1)).A.length; rw [HF.out.side.a]; exact HG2.out.kept.pos) (by show (mk (l.take j ++ l.drop j1)).A.length ≤ _; rw [HF.out.side.a]; have := HG2.out.a; omega) (by show q1 ≤ _; omega))
    have HDEL : Hid (delS (hashT seed) t2 k = shrinkT { mk (l.take j ++ l.drop j1) with n := q1 }) := by unfold Hid; rw [HF.out.del, hq1, hj1]
    clear hown hgr h1 h2 h3 hq1 hnm hw6 hj1 hrow
    go_wp2_with (rw [HW6.out])
    refine (HGW.out _ H7.out.1).mono ?_
    rintro e w8 ⟨rfl, o8, gB8, sB8, hp8, hu8⟩
    have HP8 : Hid (PT KS w8 base o8 Q 86 seed (delS (hashT seed) t2 k) gA6 sA6 gB8 sB8) := by unfold Hid; rw [HDEL.out]; exact hp8
    have HU8 := Lib.hid (HU6.out.trans (H7.out.2.trans hu8))
    clear hp8 hu8 e2 ef hwr
    go_wp2
    go_ret
    exact ⟨by rw [HF.out.look]; rfl, o8, gA6, sA6, gB8, sB8, HP8.out, HU8.out⟩
  · have HF := Lib.hid hf
    rw [hf.wh] at HWH
    dsimp only at HWH
    clear hf hp2 hu2
    go_wp2_with fail
    refine HWH.out.mono ?_
    rintro e w3 ⟨rfl, hb3⟩
    have HB3 := Lib.hid hb3
    clear hb3
    go_wp2
    go_ret
    exact ⟨by rw [HF.out.look]; rfl, o2, gA2, sA2, gB2, sB2, by rw [HF.out.del]; exact HP2.out.below' HB3.out, HU2.out.trans (Turns.of_below o2 HB3.out)⟩

set_option maxRecDepth 100000 in
set_option maxHeartbeats 8000000 in
theorem stepS_any {base Q seed m : Nat} {ow : Own} {t : Tb (List UInt8)} {gA gB : Nat} {sA sB : Nat → Value} (hs : seed < 18446744073709551616) (w : World) (h : PT KS w base ow Q 86 seed t gA sA gB sB) (hg : Good (hashT seed) m t) (hm : m ≤ 50000) (hks : KeysT (fun k => k.length ≤ 1000) t) :
    Calls Try.prog 34 #[.pointer (some ⟨Q, 0, none⟩)] w fun e w' => e = .returned (.bool (decide (0 < (stepT (hashT seed) t).B.length))) ∧ ∃ ow' gA' sA' gB' sB', PT KS w' base ow' Q 86 seed (stepT (hashT seed) t) gA' sA' gB' sB' ∧ Turns ow ow' w w' := by
  have c0 : w.cell? ⟨Q, 0, none⟩ = some (.pointer (some ⟨Q, 0, none⟩)) := h.hd.cell (by omega)
  have HM := Lib.hid (isMadeS_any Q w c0)
  have HMO := Lib.hid (moveS_any hs w h hg (by omega) (fun x hx => by have := hks.1.flat x hx; omega))
  obtain ⟨t2, ht2⟩ : ∃ t2, stepT (hashT seed) t = t2 := ⟨_, rfl⟩
  rw [ht2] at HMO ⊢
  clear h hg hks c0 ht2
  go_enter Try.func34, Try.ntmps34
  go_wp2_with fail
  refine HM.out.mono ?_
  rintro e w1 ⟨rfl, rfl⟩
  go_wp2_with fail
  refine HMO.out.mono ?_
  rintro e w2 ⟨rfl, o2, gA2, sA2, gB2, sB2, hp2, hu2⟩
  have c4 : w2.cell? ⟨Q, 4, none⟩ = some (rowV gB2 t2.B.length) := hp2.hd.cell (by omega)
  have HMV := Lib.hid (movesS_any Q t2.B.length gB2 w2 c4)
  have HP2 := Lib.hid hp2
  have HU2 := Lib.hid hu2
  clear hp2 hu2 c4
  go_wp2_with fail
  refine HMV.out.mono ?_
  rintro e w3 ⟨rfl, rfl⟩
  go_wp2
  go_ret
  exact ⟨rfl, o2, gA2, sA2, gB2, sB2, HP2.out, HU2.out⟩

set_option maxRecDepth 100000 in
set_option maxHeartbeats 8000000 in
theorem getS_any {base Q seed m : Nat} {ow : Own} {t : Tb (List UInt8)} {gA gB : Nat} {sA sB : Nat → Value} (hs : seed < 18446744073709551616) (k : List UInt8) (K : ByteArray) (hK : K.data.toList = k) (hK63 : K.size ≤ 1000) (w : World) (h : PT KS w base ow Q 86 seed t gA sA gB sB) (hg : Good (hashT seed) m t) (hm : m ≤ 50000) (hks : KeysT (fun k => k.length ≤ 1000) t) :
    Calls Try.prog 32 #[.pointer (some ⟨Q, 0, none⟩), .string K] w fun e w' => e = .returned (.tuple #[(lookW KS ([] : List UInt8) (lookT (hashT seed) (stepT (hashT seed) t) k)).1, .bool (lookW KS ([] : List UInt8) (lookT (hashT seed) (stepT (hashT seed) t) k)).2]) ∧ ∃ ow' gA' sA' gB' sB', PT KS w' base ow' Q 86 seed (stepT (hashT seed) t) gA' sA' gB' sB' ∧ Turns ow ow' w w' := by
  have HST := Lib.hid (stepS_any hs w h hg hm hks)
  have HG2 := Lib.hid (good_step hg)
  obtain ⟨t2, ht2⟩ : ∃ t2, stepT (hashT seed) t = t2 := ⟨_, rfl⟩
  rw [ht2] at HST HG2 ⊢
  have HKK := Lib.hid hK
  obtain ⟨V, hV⟩ : ∃ V, (lookW KS ([] : List UInt8) (lookT (hashT seed) t2 k)).1 = V := ⟨_, rfl⟩
  obtain ⟨B, hB⟩ : ∃ B, (lookW KS ([] : List UInt8) (lookT (hashT seed) t2 k)).2 = B := ⟨_, rfl⟩
  rw [hV, hB]
  have HV := Lib.hid hV
  have HBB := Lib.hid hB
  clear h hg hks ht2 hK hV hB
  go_enter Try.func32, Try.ntmps32
  go_wp2_with fail
  refine HST.out.mono ?_
  rintro e w2 ⟨rfl, o2, gA2, sA2, gB2, sB2, hp2, hu2⟩
  have HP2 := Lib.hid hp2
  have HU2 := Lib.hid hu2
  have HLK := Lib.hid (lookS_any hs k K HKK.out (by omega) w2 hp2 HG2.out (by omega))
  rw [HV.out, HBB.out] at HLK
  clear hp2 hu2
  go_wp2_with fail
  refine HLK.out.mono ?_
  rintro e w3 ⟨rfl, hb3⟩
  have HB3 := Lib.hid hb3
  clear hb3
  go_wp2
  go_ret2
  exact ⟨rfl, o2, gA2, sA2, gB2, sB2, HP2.out.below' HB3.out, HU2.out.trans (Turns.of_below o2 HB3.out)⟩

end Go.Proofs.Ytcjoakbaldeaoaa
