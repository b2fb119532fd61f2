/-
  What the statement RespPieces wants: two rows of requests joined; Split of a beginning and of more. No condition but those typed.
-/
import Derived.Test.YtkaododohnncnaaDoorRpM
namespace Go.Proofs.YtkaododohnncnaaDoor
open Go.RowKit

/-- Two rows of requests, the second one appended. -/
theorem OwnsReqs.join {w w' : World} {base : Nat} {v v' : Value} {L M : List (List (List UInt8))} {vs us : List Value} (h1 : vs.length = L.length) (k1 : us.length = M.length)
    (h3 : ∀ (i : Nat) (u : Value) (r : List (List UInt8)), vs[i]? = some u → L[i]? = some r → w.ownsRow base 9 1 u r.length (r.map strV))
    (k3 : ∀ (i : Nat) (u : Value) (r : List (List UInt8)), us[i]? = some u → M[i]? = some r → w.ownsRow base 9 1 u r.length (r.map strV))
    (hv : w.ownsRow base 22 1 v L.length vs) (hn : w'.ownsRow base 22 1 v' (L.length + M.length) (vs ++ us)) (hg : w.grownBy w' v.ownBlock) : OwnsReqs w' base v' (L ++ M) := by
  refine ⟨vs ++ us, by simp [h1, k1], by rw [List.length_append]; exact hn, fun i x y hx hy => ?_⟩
  by_cases hi : i < L.length
  · rw [List.getElem?_append_left (by omega)] at hx
    rw [List.getElem?_append_left hi] at hy
    have hk := h3 i x y hx hy
    exact hk.kept hg (own_ne hk hv (by decide))
  · rw [List.getElem?_append_right (by omega), h1] at hx
    rw [List.getElem?_append_right (by omega)] at hy
    have hk := k3 _ x y hx hy
    exact hk.kept hg (own_ne hk hv (by decide))

/-- More bytes, behind some that hold no fault: the same as the rest of these and the more. -/
theorem split_more (a p : List UInt8) (h : (splitS a).2.2 = []) :
    splitS (a ++ p) = ((splitS a).1 ++ (splitS (restS a ++ p)).1, (splitS a).2.1 + (splitS (restS a ++ p)).2.1, (splitS (restS a ++ p)).2.2) ∧
    restS (a ++ p) = restS (restS a ++ p) := by
  have hr : restS a = a.drop (splitS a).2.1 := by unfold restS; rw [if_pos h]
  have hs := (splitS_append a p).2
  rw [if_pos h, ← hr] at hs
  refine ⟨hs, ?_⟩
  have hle := split_le a
  unfold restS at hr ⊢
  rw [if_pos h] at hr
  rw [hs]
  dsimp only
  by_cases hF : (splitS (restS a ++ p)).2.2 = []
  · have e : (if (splitS a).2.2 = [] then a.drop (splitS a).2.1 else []) = a.drop (splitS a).2.1 := if_pos h
    rw [if_pos hF]
    rw [e]
    have hF' : (splitS (a.drop (splitS a).2.1 ++ p)).2.2 = [] := by
      have : restS a = a.drop (splitS a).2.1 := by unfold restS; rw [if_pos h]
      rw [← this]; exact hF
    rw [if_pos hF']
    have e3 : restS a = a.drop (splitS a).2.1 := by unfold restS; rw [if_pos h]
    rw [e3, ← List.drop_drop, List.drop_append_of_le_length hle]
  · have e3 : restS a = a.drop (splitS a).2.1 := by unfold restS; rw [if_pos h]
    rw [if_neg hF, if_pos h]
    rw [e3] at hF
    rw [if_neg hF]
theorem split_fault (a p : List UInt8) (h : (splitS a).2.2 ≠ []) : splitS (a ++ p) = splitS a := by
  have hs := (splitS_append a p).2
  rwa [if_neg h] at hs
theorem split_nil : splitS [] = ([], 0, []) := by kernel_rfl

theorem OwnsReqs.modu {w w1 : World} {B G base n : Nat} {vl kv : Value} {xs : List Value} {acc : List (List (List UInt8))} (h : OwnsReqs w base vl acc) (ho : w.ownsRow B 5 1 kv n xs) (k : Mod w G kv.ownBlock w1) (hG2 : G < base) : OwnsReqs w1 base vl acc := by
  obtain ⟨vs, h1, h2, h3⟩ := h
  exact ⟨vs, h1, own_mod h2 k hG2 (own_ne h2 ho (by decide)), fun i u r hu hr => own_mod (h3 i u r hu hr) k hG2 (own_ne (h3 i u r hu hr) ho (by decide))⟩

theorem RdS.grown {w w1 : World} {G n : Nat} {kv vg : Value} {kept : List UInt8} {done : Bool} {xs : List Value} (h : RdS w G kv kept done) (hg : w.grownBy w1 vg.ownBlock) (ho : w.ownsRow (G + 1) 22 1 vg n xs) : RdS w1 G kv kept done :=
  have hb := hg.block G h.lt (fun e => by have := (own_lt ho e.symm).1; omega)
  { lt := Nat.lt_of_lt_of_le h.lt hg.size
    c0 := (World.cell?_of_block (a := ⟨G, 0, none⟩) hb).trans h.c0
    c1 := (World.cell?_of_block (a := ⟨G, 1, none⟩) hb).trans h.c1
    c2 := (World.cell?_of_block (a := ⟨G, 2, none⟩) hb).trans h.c2
    f1 := (World.frozen?_of_block (a := ⟨G, 1, none⟩) hb).trans h.f1
    f2 := (World.frozen?_of_block (a := ⟨G, 2, none⟩) hb).trans h.f2
    own := h.own.kept hg (own_ne h.own ho (by decide)) }

theorem one_row {w : World} {base : Nat} {us : List Value} {M : List (List (List UInt8))} (k1 : us.length = M.length) (k3 : ∀ (i : Nat) (u : Value) (r : List (List UInt8)), us[i]? = some u → M[i]? = some r → w.ownsRow base 9 1 u r.length (r.map strV)) (u : Value) (hu : u ∈ us) : u.oneCell' = true := by
  obtain ⟨i, hi, he⟩ := List.mem_iff_getElem.1 hu
  have hm : i < M.length := by omega
  have h := k3 i u M[i] (by rw [List.getElem?_eq_getElem hi, he]) (List.getElem?_eq_getElem hm)
  obtain ⟨A, c, rfl⟩ := ownsRow_form h
  rfl

end Go.Proofs.YtkaododohnncnaaDoor
