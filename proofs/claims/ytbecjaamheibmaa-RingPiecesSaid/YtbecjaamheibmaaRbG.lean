/-
  A ring beside the document's: what an act makes of both. Condition: both hold alike, in blocks of their own.
-/
import Derived.Test.YtbecjaamheibmaaRbE
import Derived.Test.YtbecjaamheibmaaRgS
namespace Go.Proofs.Ytbecjaamheibmaa
open Go.RowKit

/-- A ring beside the document's. -/
structure Pr19 (w : World) (base : Nat) (F : Nat → Prop) (p : Nat) (G : Nat → Prop) (q s : Nat) (h : Hst) (X : Tx) (h' : Hst) (X' : Tx) : Prop where
  d : RgOn w base F p s h X
  r : RfOn w base G q s h' X'
  no : ∀ k, F k → ¬ G k

section
variable {w w' : World} {base p q s : Nat} {F G : Nat → Prop} {h h1 h2 : Hst} {X X1 X2 : Tx}

theorem Pr19.below (H : Pr19 w base F p G q s h X h1 X1) (hb : Below w.heap.size w w') : Pr19 w' base F p G q s h X h1 X1 := ⟨H.d.below hb, H.r.below hb, H.no⟩
theorem Pr19.dTo (H : Pr19 w base F p G q s h X h1 X1) (K : RgTo w base F p s h2 X2 w') : ∃ F', Pr19 w' base F' p G q s h2 X2 h1 X1 ∧ Chg F F' w w' ∧ Below base w w' := by
  obtain ⟨F', k1, k2, k3⟩ := RgTo.out H.d K
  refine ⟨F', ⟨k1, H.r.only k2.1 (fun k hg hf => H.no k hf hg), fun k hk hg => ?_⟩, k2, k3⟩
  rcases k2.2 k hk with e | e
  · exact H.no k e hg
  · have := (H.r.own k hg).2; omega
theorem Pr19.rTo (H : Pr19 w base F p G q s h X h1 X1) (K : RfTo w base G q s h2 X2 w') : ∃ G', Pr19 w' base F p G' q s h X h2 X2 ∧ Chg G G' w w' ∧ Below base w w' := by
  obtain ⟨G', k1, k2, k3⟩ := RfTo.out H.r K
  refine ⟨G', ⟨H.d.only k2.1 (fun k hf hg => H.no k hf hg), k1, fun k hk hg => ?_⟩, k2, k3⟩
  rcases k2.2 k hg with e | e
  · exact H.no k hk e
  · have := (H.d.ls.1 k hk).2; omega

/-- A call of the script, in its box. -/
def BoxAt (w : World) (N : Nat) (kd : Int) (A : Option Addr) (n c : Nat) (id of : Int) : Prop := w.rowIs N 35 4 (fun i => if i = 0 then .int .i64 kd else if i = 1 then .slice A n c else if i = 2 then .int .u64 id else .int .i64 of)

/-- Both led on alike. -/
def PrTo (w : World) (base p q s : Nat) (w' : World) : Prop := ∃ F G h X, Pr19 w' base F p G q s h X h X ∧ Below base w w'
/-- .. a box beside them. -/
def PrBx (w : World) (base p q s : Nat) (h : Hst) (X : Tx) (h1 : Hst) (X1 : Tx) (N : Nat) (kd : Int) (A : Option Addr) (n c : Nat) (id of : Int) (w' : World) : Prop := ∃ F G, Pr19 w' base F p G q s h X h1 X1 ∧ (∀ k, F k → k ≠ N) ∧ (∀ k, G k → k ≠ N) ∧ BoxAt w' N kd A n c id of ∧ Below base w w'

theorem aFeed_d {N : Nat} {kd : Int} {A0 : Option Addr} {n0 c0 : Nat} {id0 of0 : Int} {hz : Hst} {Xz : Tx} {A : Option Addr} {n c : Nat} {b : Tx} (W : World) (H : Pr19 w base F p G q s h X hz Xz) (hF : ∀ k, F k → k ≠ N) (hG : ∀ k, G k → k ≠ N) (hx : BoxAt w N kd A0 n0 c0 id0 of0) (hW : Below base W w) (hb : ByAt w A n c b) (hlow : ∀ g o, 0 < n → A = some ⟨g, o, none⟩ → g < base) :
    Calls Try.prog 26 #[.pointer (some ⟨p, 0, none⟩), .slice A n c] w fun e w' => e = .returned (.int .i64 (fdE h n)) ∧ PrBx W base p q s (fdH h n) (fdX h X b) hz Xz N kd A0 n0 c0 id0 of0 w' := by
  refine (feed_any w H.d hb (fun g o h0 e hF => by have := hlow g o h0 e; have := (H.d.ls.1 g hF).1; omega)).mono ?_
  rintro e w' ⟨rfl, ht⟩
  obtain ⟨F', k1, k2, k3⟩ := H.dTo ht
  refine ⟨rfl, F', G, k1, ?_, hG, k2.1.row hx (fun e => hF N e rfl), hW.trans k3⟩
  intro k hk e
  rcases k2.2 k hk with g | g
  · exact hF k g e
  · have := hx.lt
    omega

theorem aFeed_r {N : Nat} {kd : Int} {A0 : Option Addr} {n0 c0 : Nat} {id0 of0 : Int} {hz : Hst} {Xz : Tx} {A : Option Addr} {n c : Nat} {b : Tx} (W : World) (H : Pr19 w base F p G q s hz Xz h X) (hF : ∀ k, F k → k ≠ N) (hG : ∀ k, G k → k ≠ N) (hx : BoxAt w N kd A0 n0 c0 id0 of0) (hW : Below base W w) (hb : ByAt w A n c b) (hlow : ∀ g o, 0 < n → A = some ⟨g, o, none⟩ → g < base) (hn : n ≤ 500) :
    Calls Try.prog 29 #[.pointer (some ⟨q, 0, none⟩), .slice A n c] w fun e w' => e = .returned (.int .i64 (fdE h n)) ∧ PrBx W base p q s hz Xz (fdH h n) (fdX h X b) N kd A0 n0 c0 id0 of0 w' := by
  refine (rfeed_any w H.r hb (fun g o h0 e hF => by have := hlow g o h0 e; have := (H.r.own q H.r.me).1; omega) (by omega)).mono ?_
  rintro e w' ⟨rfl, ht⟩
  obtain ⟨F', k1, k2, k3⟩ := H.rTo ht
  refine ⟨rfl, F, F', k1, hF, ?_, k2.1.row hx (fun e => hG N e rfl), hW.trans k3⟩
  intro k hk e
  rcases k2.2 k hk with g | g
  · exact hG k g e
  · have := hx.lt
    omega

theorem aFork_d {N : Nat} {kd : Int} {A0 : Option Addr} {n0 c0 : Nat} {id0 of0 : Int} {hz : Hst} {Xz : Tx} {id : Int} (W : World) (H : Pr19 w base F p G q s h X hz Xz) (hF : ∀ k, F k → k ≠ N) (hG : ∀ k, G k → k ≠ N) (hx : BoxAt w N kd A0 n0 c0 id0 of0) (hW : Below base W w) (i1 : 0 ≤ id) (i2 : id ≤ 18446744073709551615) :
    Calls Try.prog 27 #[.pointer (some ⟨p, 0, none⟩), .int .u64 id] w fun e w' => e = .returned (.int .i64 (fkE h id)) ∧ PrBx W base p q s (fkH h id) X hz Xz N kd A0 n0 c0 id0 of0 w' := by
  refine (fork_any w H.d id i1 i2).mono ?_
  rintro e w' ⟨rfl, ht⟩
  obtain ⟨F', k1, k2, k3⟩ := H.dTo ht
  refine ⟨rfl, F', G, k1, ?_, hG, k2.1.row hx (fun e => hF N e rfl), hW.trans k3⟩
  intro k hk e
  rcases k2.2 k hk with g | g
  · exact hF k g e
  · have := hx.lt
    omega

theorem aFork_r {N : Nat} {kd : Int} {A0 : Option Addr} {n0 c0 : Nat} {id0 of0 : Int} {hz : Hst} {Xz : Tx} {id : Int} (W : World) (H : Pr19 w base F p G q s hz Xz h X) (hF : ∀ k, F k → k ≠ N) (hG : ∀ k, G k → k ≠ N) (hx : BoxAt w N kd A0 n0 c0 id0 of0) (hW : Below base W w) (i1 : 0 ≤ id) (i2 : id ≤ 18446744073709551615) :
    Calls Try.prog 30 #[.pointer (some ⟨q, 0, none⟩), .int .u64 id] w fun e w' => e = .returned (.int .i64 (fkE h id)) ∧ PrBx W base p q s hz Xz (fkH h id) X N kd A0 n0 c0 id0 of0 w' := by
  refine (rfork_any w H.r id i1 i2).mono ?_
  rintro e w' ⟨rfl, ht⟩
  obtain ⟨F', k1, k2, k3⟩ := H.rTo ht
  refine ⟨rfl, F, F', k1, hF, ?_, k2.1.row hx (fun e => hG N e rfl), hW.trans k3⟩
  intro k hk e
  rcases k2.2 k hk with g | g
  · exact hG k g e
  · have := hx.lt
    omega

theorem aFollow_d {N : Nat} {kd : Int} {A0 : Option Addr} {n0 c0 : Nat} {id0 of0 : Int} {hz : Hst} {Xz : Tx} {id o : Int} (W : World) (H : Pr19 w base F p G q s h X hz Xz) (hF : ∀ k, F k → k ≠ N) (hG : ∀ k, G k → k ≠ N) (hx : BoxAt w N kd A0 n0 c0 id0 of0) (hW : Below base W w) (i1 : 0 ≤ id) (i2 : id ≤ 18446744073709551615) :
    Calls Try.prog 28 #[.pointer (some ⟨p, 0, none⟩), .int .u64 id, .int .i64 o] w fun e w' => e = .returned (.int .i64 (flE id o)) ∧ PrBx W base p q s (flH h id o) (flX X id o) hz Xz N kd A0 n0 c0 id0 of0 w' := by
  refine (follow_any w H.d id o i1 i2).mono ?_
  rintro e w' ⟨rfl, ht⟩
  obtain ⟨F', k1, k2, k3⟩ := H.dTo ht
  refine ⟨rfl, F', G, k1, ?_, hG, k2.1.row hx (fun e => hF N e rfl), hW.trans k3⟩
  intro k hk e
  rcases k2.2 k hk with g | g
  · exact hF k g e
  · have := hx.lt
    omega

theorem aFollow_r {N : Nat} {kd : Int} {A0 : Option Addr} {n0 c0 : Nat} {id0 of0 : Int} {hz : Hst} {Xz : Tx} {id o : Int} (W : World) (H : Pr19 w base F p G q s hz Xz h X) (hF : ∀ k, F k → k ≠ N) (hG : ∀ k, G k → k ≠ N) (hx : BoxAt w N kd A0 n0 c0 id0 of0) (hW : Below base W w) (i1 : 0 ≤ id) (i2 : id ≤ 18446744073709551615) :
    Calls Try.prog 31 #[.pointer (some ⟨q, 0, none⟩), .int .u64 id, .int .i64 o] w fun e w' => e = .returned (.int .i64 (flE id o)) ∧ PrBx W base p q s hz Xz (flH h id o) (flX X id o) N kd A0 n0 c0 id0 of0 w' := by
  refine (rfollow_any w H.r id o i1 i2).mono ?_
  rintro e w' ⟨rfl, ht⟩
  obtain ⟨F', k1, k2, k3⟩ := H.rTo ht
  refine ⟨rfl, F, F', k1, hF, ?_, k2.1.row hx (fun e => hG N e rfl), hW.trans k3⟩
  intro k hk e
  rcases k2.2 k hk with g | g
  · exact hG k g e
  · have := hx.lt
    omega

end

end Go.Proofs.Ytbecjaamheibmaa
