/-
  The document's rows of each group: what each call lays. No condition.
-/
import Derived.Test.YtinpimejiepahaaCmM
import Derived.Great.Walk
namespace Go.Proofs.Ytinpimejiepahaa
open Go.RowKit

set_option maxRecDepth 100000 in
set_option maxHeartbeats 8000000 in
theorem rows1_any (w : World) : Calls Try.prog 28 #[] w fun e w' => ∃ A c, e = .returned (.slice A 18 c) ∧ SpAt w' A 18 c (rw1.map (toSp 1)) ∧ Below w.heap.size w w' := by
  go_enter Try.func28, Try.ntmps28
  refine wp_seq (wp_region_list (Great.wpList_readTo rfl (some 0) rfl (.slice none 0 0) (by kernel_rfl) (wpList_nil ?_)))
  dsimp only [Exit.then]
  refine wp_seq (wp_region_list ?_)
  refine Great.wpList_readTo rfl (some 1) rfl (.agg #[.string ⟨#[103, 101, 116]⟩, .int .i64 1, .int .i64 2, .bool false, .int .i64 1, .int .i64 1, .int .i64 1]) (by kernel_rfl) ?_
  refine Great.wpList_readTo rfl (some 2) rfl (.agg #[.string ⟨#[115, 101, 116]⟩, .int .i64 1, .int .i64 (-3), .bool true, .int .i64 1, .int .i64 1, .int .i64 1]) (by kernel_rfl) ?_
  refine Great.wpList_readTo rfl (some 3) rfl (.agg #[.string ⟨#[103, 101, 116, 115, 101, 116]⟩, .int .i64 1, .int .i64 3, .bool true, .int .i64 1, .int .i64 1, .int .i64 1]) (by kernel_rfl) ?_
  refine Great.wpList_readTo rfl (some 4) rfl (.agg #[.string ⟨#[103, 101, 116, 100, 101, 108]⟩, .int .i64 1, .int .i64 2, .bool true, .int .i64 1, .int .i64 1, .int .i64 1]) (by kernel_rfl) ?_
  refine Great.wpList_readTo rfl (some 5) rfl (.agg #[.string ⟨#[115, 101, 116, 110, 120]⟩, .int .i64 1, .int .i64 3, .bool true, .int .i64 1, .int .i64 1, .int .i64 1]) (by kernel_rfl) ?_
  refine Great.wpList_readTo rfl (some 6) rfl (.agg #[.string ⟨#[115, 101, 116, 101, 120]⟩, .int .i64 1, .int .i64 4, .bool true, .int .i64 1, .int .i64 1, .int .i64 1]) (by kernel_rfl) ?_
  refine Great.wpList_readTo rfl (some 7) rfl (.agg #[.string ⟨#[112, 115, 101, 116, 101, 120]⟩, .int .i64 1, .int .i64 4, .bool true, .int .i64 1, .int .i64 1, .int .i64 1]) (by kernel_rfl) ?_
  refine Great.wpList_readTo rfl (some 8) rfl (.agg #[.string ⟨#[109, 103, 101, 116]⟩, .int .i64 1, .int .i64 (-2), .bool false, .int .i64 1, .int .i64 (-1), .int .i64 1]) (by kernel_rfl) ?_
  refine Great.wpList_readTo rfl (some 9) rfl (.agg #[.string ⟨#[109, 115, 101, 116]⟩, .int .i64 1, .int .i64 (-3), .bool true, .int .i64 1, .int .i64 (-1), .int .i64 2]) (by kernel_rfl) ?_
  refine Great.wpList_readTo rfl (some 10) rfl (.agg #[.string ⟨#[109, 115, 101, 116, 110, 120]⟩, .int .i64 1, .int .i64 (-3), .bool true, .int .i64 1, .int .i64 (-1), .int .i64 2]) (by kernel_rfl) ?_
  refine Great.wpList_readTo rfl (some 11) rfl (.agg #[.string ⟨#[97, 112, 112, 101, 110, 100]⟩, .int .i64 1, .int .i64 3, .bool true, .int .i64 1, .int .i64 1, .int .i64 1]) (by kernel_rfl) ?_
  refine Great.wpList_readTo rfl (some 12) rfl (.agg #[.string ⟨#[115, 116, 114, 108, 101, 110]⟩, .int .i64 1, .int .i64 2, .bool false, .int .i64 1, .int .i64 1, .int .i64 1]) (by kernel_rfl) ?_
  refine Great.wpList_readTo rfl (some 13) rfl (.agg #[.string ⟨#[103, 101, 116, 114, 97, 110, 103, 101]⟩, .int .i64 1, .int .i64 4, .bool false, .int .i64 1, .int .i64 1, .int .i64 1]) (by kernel_rfl) ?_
  refine Great.wpList_readTo rfl (some 14) rfl (.agg #[.string ⟨#[115, 101, 116, 114, 97, 110, 103, 101]⟩, .int .i64 1, .int .i64 4, .bool true, .int .i64 1, .int .i64 1, .int .i64 1]) (by kernel_rfl) ?_
  refine Great.wpList_readTo rfl (some 15) rfl (.agg #[.string ⟨#[105, 110, 99, 114]⟩, .int .i64 1, .int .i64 2, .bool true, .int .i64 1, .int .i64 1, .int .i64 1]) (by kernel_rfl) ?_
  refine Great.wpList_readTo rfl (some 16) rfl (.agg #[.string ⟨#[100, 101, 99, 114]⟩, .int .i64 1, .int .i64 2, .bool true, .int .i64 1, .int .i64 1, .int .i64 1]) (by kernel_rfl) ?_
  refine Great.wpList_readTo rfl (some 17) rfl (.agg #[.string ⟨#[105, 110, 99, 114, 98, 121]⟩, .int .i64 1, .int .i64 3, .bool true, .int .i64 1, .int .i64 1, .int .i64 1]) (by kernel_rfl) ?_
  refine Great.wpList_readTo rfl (some 18) rfl (.agg #[.string ⟨#[100, 101, 99, 114, 98, 121]⟩, .int .i64 1, .int .i64 3, .bool true, .int .i64 1, .int .i64 1, .int .i64 1]) (by kernel_rfl) ?_
  refine Great.wpList_buildSliceTo rfl 23 27 18 _ rfl _ rfl (some 19) rfl Try.underlying23 (scells (rw1.map (toSp 1))).toArray (by kernel_rfl) ?_
  refine Great.wpList_readTo rfl (some 0) rfl (.slice (some ⟨w.heap.size, 0, none⟩) 18 18) (by kernel_rfl) (wpList_nil ?_)
  dsimp only [Exit.then]
  refine wp_ret (bodyPost_ret (v := .slice (some ⟨w.heap.size, 0, none⟩) 18 18) (by kernel_rfl) rfl ?_)
  exact ⟨_, _, rfl, SpAt.lit w (rw1.map (toSp 1)) _ rfl (by decide) (by decide) _ rfl _ rfl, (Below.refl _ _).alloc (Nat.le_refl _) _⟩

set_option maxRecDepth 100000 in
set_option maxHeartbeats 8000000 in
theorem rows2_any (w : World) : Calls Try.prog 29 #[] w fun e w' => ∃ A c, e = .returned (.slice A 15 c) ∧ SpAt w' A 15 c (rw2.map (toSp 2)) ∧ Below w.heap.size w w' := by
  go_enter Try.func29, Try.ntmps29
  refine wp_seq (wp_region_list (Great.wpList_readTo rfl (some 0) rfl (.slice none 0 0) (by kernel_rfl) (wpList_nil ?_)))
  dsimp only [Exit.then]
  refine wp_seq (wp_region_list ?_)
  refine Great.wpList_readTo rfl (some 1) rfl (.agg #[.string ⟨#[108, 112, 117, 115, 104]⟩, .int .i64 2, .int .i64 (-3), .bool true, .int .i64 1, .int .i64 1, .int .i64 1]) (by kernel_rfl) ?_
  refine Great.wpList_readTo rfl (some 2) rfl (.agg #[.string ⟨#[114, 112, 117, 115, 104]⟩, .int .i64 2, .int .i64 (-3), .bool true, .int .i64 1, .int .i64 1, .int .i64 1]) (by kernel_rfl) ?_
  refine Great.wpList_readTo rfl (some 3) rfl (.agg #[.string ⟨#[108, 112, 117, 115, 104, 120]⟩, .int .i64 2, .int .i64 (-3), .bool true, .int .i64 1, .int .i64 1, .int .i64 1]) (by kernel_rfl) ?_
  refine Great.wpList_readTo rfl (some 4) rfl (.agg #[.string ⟨#[114, 112, 117, 115, 104, 120]⟩, .int .i64 2, .int .i64 (-3), .bool true, .int .i64 1, .int .i64 1, .int .i64 1]) (by kernel_rfl) ?_
  refine Great.wpList_readTo rfl (some 5) rfl (.agg #[.string ⟨#[108, 112, 111, 112]⟩, .int .i64 2, .int .i64 (-2), .bool true, .int .i64 1, .int .i64 1, .int .i64 1]) (by kernel_rfl) ?_
  refine Great.wpList_readTo rfl (some 6) rfl (.agg #[.string ⟨#[114, 112, 111, 112]⟩, .int .i64 2, .int .i64 (-2), .bool true, .int .i64 1, .int .i64 1, .int .i64 1]) (by kernel_rfl) ?_
  refine Great.wpList_readTo rfl (some 7) rfl (.agg #[.string ⟨#[108, 108, 101, 110]⟩, .int .i64 2, .int .i64 2, .bool false, .int .i64 1, .int .i64 1, .int .i64 1]) (by kernel_rfl) ?_
  refine Great.wpList_readTo rfl (some 8) rfl (.agg #[.string ⟨#[108, 114, 97, 110, 103, 101]⟩, .int .i64 2, .int .i64 4, .bool false, .int .i64 1, .int .i64 1, .int .i64 1]) (by kernel_rfl) ?_
  refine Great.wpList_readTo rfl (some 9) rfl (.agg #[.string ⟨#[108, 105, 110, 100, 101, 120]⟩, .int .i64 2, .int .i64 3, .bool false, .int .i64 1, .int .i64 1, .int .i64 1]) (by kernel_rfl) ?_
  refine Great.wpList_readTo rfl (some 10) rfl (.agg #[.string ⟨#[108, 115, 101, 116]⟩, .int .i64 2, .int .i64 4, .bool true, .int .i64 1, .int .i64 1, .int .i64 1]) (by kernel_rfl) ?_
  refine Great.wpList_readTo rfl (some 11) rfl (.agg #[.string ⟨#[108, 114, 101, 109]⟩, .int .i64 2, .int .i64 4, .bool true, .int .i64 1, .int .i64 1, .int .i64 1]) (by kernel_rfl) ?_
  refine Great.wpList_readTo rfl (some 12) rfl (.agg #[.string ⟨#[108, 116, 114, 105, 109]⟩, .int .i64 2, .int .i64 4, .bool true, .int .i64 1, .int .i64 1, .int .i64 1]) (by kernel_rfl) ?_
  refine Great.wpList_readTo rfl (some 13) rfl (.agg #[.string ⟨#[108, 105, 110, 115, 101, 114, 116]⟩, .int .i64 2, .int .i64 5, .bool true, .int .i64 1, .int .i64 1, .int .i64 1]) (by kernel_rfl) ?_
  refine Great.wpList_readTo rfl (some 14) rfl (.agg #[.string ⟨#[114, 112, 111, 112, 108, 112, 117, 115, 104]⟩, .int .i64 2, .int .i64 3, .bool true, .int .i64 1, .int .i64 2, .int .i64 1]) (by kernel_rfl) ?_
  refine Great.wpList_readTo rfl (some 15) rfl (.agg #[.string ⟨#[108, 109, 111, 118, 101]⟩, .int .i64 2, .int .i64 5, .bool true, .int .i64 1, .int .i64 2, .int .i64 1]) (by kernel_rfl) ?_
  refine Great.wpList_buildSliceTo rfl 23 27 15 _ rfl _ rfl (some 16) rfl Try.underlying23 (scells (rw2.map (toSp 2))).toArray (by kernel_rfl) ?_
  refine Great.wpList_readTo rfl (some 0) rfl (.slice (some ⟨w.heap.size, 0, none⟩) 15 15) (by kernel_rfl) (wpList_nil ?_)
  dsimp only [Exit.then]
  refine wp_ret (bodyPost_ret (v := .slice (some ⟨w.heap.size, 0, none⟩) 15 15) (by kernel_rfl) rfl ?_)
  exact ⟨_, _, rfl, SpAt.lit w (rw2.map (toSp 2)) _ rfl (by decide) (by decide) _ rfl _ rfl, (Below.refl _ _).alloc (Nat.le_refl _) _⟩

set_option maxRecDepth 100000 in
set_option maxHeartbeats 8000000 in
theorem rows3_any (w : World) : Calls Try.prog 30 #[] w fun e w' => ∃ A c, e = .returned (.slice A 15 c) ∧ SpAt w' A 15 c (rw3.map (toSp 3)) ∧ Below w.heap.size w w' := by
  go_enter Try.func30, Try.ntmps30
  refine wp_seq (wp_region_list (Great.wpList_readTo rfl (some 0) rfl (.slice none 0 0) (by kernel_rfl) (wpList_nil ?_)))
  dsimp only [Exit.then]
  refine wp_seq (wp_region_list ?_)
  refine Great.wpList_readTo rfl (some 1) rfl (.agg #[.string ⟨#[115, 97, 100, 100]⟩, .int .i64 3, .int .i64 (-3), .bool true, .int .i64 1, .int .i64 1, .int .i64 1]) (by kernel_rfl) ?_
  refine Great.wpList_readTo rfl (some 2) rfl (.agg #[.string ⟨#[115, 114, 101, 109]⟩, .int .i64 3, .int .i64 (-3), .bool true, .int .i64 1, .int .i64 1, .int .i64 1]) (by kernel_rfl) ?_
  refine Great.wpList_readTo rfl (some 3) rfl (.agg #[.string ⟨#[115, 105, 115, 109, 101, 109, 98, 101, 114]⟩, .int .i64 3, .int .i64 3, .bool false, .int .i64 1, .int .i64 1, .int .i64 1]) (by kernel_rfl) ?_
  refine Great.wpList_readTo rfl (some 4) rfl (.agg #[.string ⟨#[115, 109, 105, 115, 109, 101, 109, 98, 101, 114]⟩, .int .i64 3, .int .i64 (-3), .bool false, .int .i64 1, .int .i64 1, .int .i64 1]) (by kernel_rfl) ?_
  refine Great.wpList_readTo rfl (some 5) rfl (.agg #[.string ⟨#[115, 99, 97, 114, 100]⟩, .int .i64 3, .int .i64 2, .bool false, .int .i64 1, .int .i64 1, .int .i64 1]) (by kernel_rfl) ?_
  refine Great.wpList_readTo rfl (some 6) rfl (.agg #[.string ⟨#[115, 109, 101, 109, 98, 101, 114, 115]⟩, .int .i64 3, .int .i64 2, .bool false, .int .i64 1, .int .i64 1, .int .i64 1]) (by kernel_rfl) ?_
  refine Great.wpList_readTo rfl (some 7) rfl (.agg #[.string ⟨#[115, 112, 111, 112]⟩, .int .i64 3, .int .i64 (-2), .bool true, .int .i64 1, .int .i64 1, .int .i64 1]) (by kernel_rfl) ?_
  refine Great.wpList_readTo rfl (some 8) rfl (.agg #[.string ⟨#[115, 114, 97, 110, 100, 109, 101, 109, 98, 101, 114]⟩, .int .i64 3, .int .i64 (-2), .bool false, .int .i64 1, .int .i64 1, .int .i64 1]) (by kernel_rfl) ?_
  refine Great.wpList_readTo rfl (some 9) rfl (.agg #[.string ⟨#[115, 109, 111, 118, 101]⟩, .int .i64 3, .int .i64 4, .bool true, .int .i64 1, .int .i64 2, .int .i64 1]) (by kernel_rfl) ?_
  refine Great.wpList_readTo rfl (some 10) rfl (.agg #[.string ⟨#[115, 117, 110, 105, 111, 110]⟩, .int .i64 3, .int .i64 (-2), .bool false, .int .i64 1, .int .i64 (-1), .int .i64 1]) (by kernel_rfl) ?_
  refine Great.wpList_readTo rfl (some 11) rfl (.agg #[.string ⟨#[115, 105, 110, 116, 101, 114]⟩, .int .i64 3, .int .i64 (-2), .bool false, .int .i64 1, .int .i64 (-1), .int .i64 1]) (by kernel_rfl) ?_
  refine Great.wpList_readTo rfl (some 12) rfl (.agg #[.string ⟨#[115, 100, 105, 102, 102]⟩, .int .i64 3, .int .i64 (-2), .bool false, .int .i64 1, .int .i64 (-1), .int .i64 1]) (by kernel_rfl) ?_
  refine Great.wpList_readTo rfl (some 13) rfl (.agg #[.string ⟨#[115, 117, 110, 105, 111, 110, 115, 116, 111, 114, 101]⟩, .int .i64 3, .int .i64 (-3), .bool true, .int .i64 1, .int .i64 (-1), .int .i64 1]) (by kernel_rfl) ?_
  refine Great.wpList_readTo rfl (some 14) rfl (.agg #[.string ⟨#[115, 105, 110, 116, 101, 114, 115, 116, 111, 114, 101]⟩, .int .i64 3, .int .i64 (-3), .bool true, .int .i64 1, .int .i64 (-1), .int .i64 1]) (by kernel_rfl) ?_
  refine Great.wpList_readTo rfl (some 15) rfl (.agg #[.string ⟨#[115, 100, 105, 102, 102, 115, 116, 111, 114, 101]⟩, .int .i64 3, .int .i64 (-3), .bool true, .int .i64 1, .int .i64 (-1), .int .i64 1]) (by kernel_rfl) ?_
  refine Great.wpList_buildSliceTo rfl 23 27 15 _ rfl _ rfl (some 16) rfl Try.underlying23 (scells (rw3.map (toSp 3))).toArray (by kernel_rfl) ?_
  refine Great.wpList_readTo rfl (some 0) rfl (.slice (some ⟨w.heap.size, 0, none⟩) 15 15) (by kernel_rfl) (wpList_nil ?_)
  dsimp only [Exit.then]
  refine wp_ret (bodyPost_ret (v := .slice (some ⟨w.heap.size, 0, none⟩) 15 15) (by kernel_rfl) rfl ?_)
  exact ⟨_, _, rfl, SpAt.lit w (rw3.map (toSp 3)) _ rfl (by decide) (by decide) _ rfl _ rfl, (Below.refl _ _).alloc (Nat.le_refl _) _⟩

set_option maxRecDepth 100000 in
set_option maxHeartbeats 8000000 in
theorem rows4_any (w : World) : Calls Try.prog 31 #[] w fun e w' => ∃ A c, e = .returned (.slice A 15 c) ∧ SpAt w' A 15 c (rw4.map (toSp 4)) ∧ Below w.heap.size w w' := by
  go_enter Try.func31, Try.ntmps31
  refine wp_seq (wp_region_list (Great.wpList_readTo rfl (some 0) rfl (.slice none 0 0) (by kernel_rfl) (wpList_nil ?_)))
  dsimp only [Exit.then]
  refine wp_seq (wp_region_list ?_)
  refine Great.wpList_readTo rfl (some 1) rfl (.agg #[.string ⟨#[122, 97, 100, 100]⟩, .int .i64 4, .int .i64 (-4), .bool true, .int .i64 1, .int .i64 1, .int .i64 1]) (by kernel_rfl) ?_
  refine Great.wpList_readTo rfl (some 2) rfl (.agg #[.string ⟨#[122, 114, 101, 109]⟩, .int .i64 4, .int .i64 (-3), .bool true, .int .i64 1, .int .i64 1, .int .i64 1]) (by kernel_rfl) ?_
  refine Great.wpList_readTo rfl (some 3) rfl (.agg #[.string ⟨#[122, 115, 99, 111, 114, 101]⟩, .int .i64 4, .int .i64 3, .bool false, .int .i64 1, .int .i64 1, .int .i64 1]) (by kernel_rfl) ?_
  refine Great.wpList_readTo rfl (some 4) rfl (.agg #[.string ⟨#[122, 99, 97, 114, 100]⟩, .int .i64 4, .int .i64 2, .bool false, .int .i64 1, .int .i64 1, .int .i64 1]) (by kernel_rfl) ?_
  refine Great.wpList_readTo rfl (some 5) rfl (.agg #[.string ⟨#[122, 99, 111, 117, 110, 116]⟩, .int .i64 4, .int .i64 4, .bool false, .int .i64 1, .int .i64 1, .int .i64 1]) (by kernel_rfl) ?_
  refine Great.wpList_readTo rfl (some 6) rfl (.agg #[.string ⟨#[122, 114, 97, 110, 103, 101]⟩, .int .i64 4, .int .i64 (-4), .bool false, .int .i64 1, .int .i64 1, .int .i64 1]) (by kernel_rfl) ?_
  refine Great.wpList_readTo rfl (some 7) rfl (.agg #[.string ⟨#[122, 114, 101, 118, 114, 97, 110, 103, 101]⟩, .int .i64 4, .int .i64 (-4), .bool false, .int .i64 1, .int .i64 1, .int .i64 1]) (by kernel_rfl) ?_
  refine Great.wpList_readTo rfl (some 8) rfl (.agg #[.string ⟨#[122, 114, 97, 110, 103, 101, 98, 121, 115, 99, 111, 114, 101]⟩, .int .i64 4, .int .i64 (-4), .bool false, .int .i64 1, .int .i64 1, .int .i64 1]) (by kernel_rfl) ?_
  refine Great.wpList_readTo rfl (some 9) rfl (.agg #[.string ⟨#[122, 114, 97, 110, 107]⟩, .int .i64 4, .int .i64 3, .bool false, .int .i64 1, .int .i64 1, .int .i64 1]) (by kernel_rfl) ?_
  refine Great.wpList_readTo rfl (some 10) rfl (.agg #[.string ⟨#[122, 114, 101, 118, 114, 97, 110, 107]⟩, .int .i64 4, .int .i64 3, .bool false, .int .i64 1, .int .i64 1, .int .i64 1]) (by kernel_rfl) ?_
  refine Great.wpList_readTo rfl (some 11) rfl (.agg #[.string ⟨#[122, 105, 110, 99, 114, 98, 121]⟩, .int .i64 4, .int .i64 4, .bool true, .int .i64 1, .int .i64 1, .int .i64 1]) (by kernel_rfl) ?_
  refine Great.wpList_readTo rfl (some 12) rfl (.agg #[.string ⟨#[122, 112, 111, 112, 109, 105, 110]⟩, .int .i64 4, .int .i64 (-2), .bool true, .int .i64 1, .int .i64 1, .int .i64 1]) (by kernel_rfl) ?_
  refine Great.wpList_readTo rfl (some 13) rfl (.agg #[.string ⟨#[122, 112, 111, 112, 109, 97, 120]⟩, .int .i64 4, .int .i64 (-2), .bool true, .int .i64 1, .int .i64 1, .int .i64 1]) (by kernel_rfl) ?_
  refine Great.wpList_readTo rfl (some 14) rfl (.agg #[.string ⟨#[122, 114, 101, 109, 114, 97, 110, 103, 101, 98, 121, 114, 97, 110, 107]⟩, .int .i64 4, .int .i64 4, .bool true, .int .i64 1, .int .i64 1, .int .i64 1]) (by kernel_rfl) ?_
  refine Great.wpList_readTo rfl (some 15) rfl (.agg #[.string ⟨#[122, 114, 101, 109, 114, 97, 110, 103, 101, 98, 121, 115, 99, 111, 114, 101]⟩, .int .i64 4, .int .i64 4, .bool true, .int .i64 1, .int .i64 1, .int .i64 1]) (by kernel_rfl) ?_
  refine Great.wpList_buildSliceTo rfl 23 27 15 _ rfl _ rfl (some 16) rfl Try.underlying23 (scells (rw4.map (toSp 4))).toArray (by kernel_rfl) ?_
  refine Great.wpList_readTo rfl (some 0) rfl (.slice (some ⟨w.heap.size, 0, none⟩) 15 15) (by kernel_rfl) (wpList_nil ?_)
  dsimp only [Exit.then]
  refine wp_ret (bodyPost_ret (v := .slice (some ⟨w.heap.size, 0, none⟩) 15 15) (by kernel_rfl) rfl ?_)
  exact ⟨_, _, rfl, SpAt.lit w (rw4.map (toSp 4)) _ rfl (by decide) (by decide) _ rfl _ rfl, (Below.refl _ _).alloc (Nat.le_refl _) _⟩

set_option maxRecDepth 100000 in
set_option maxHeartbeats 8000000 in
theorem rows5_any (w : World) : Calls Try.prog 32 #[] w fun e w' => ∃ A c, e = .returned (.slice A 12 c) ∧ SpAt w' A 12 c (rw5.map (toSp 5)) ∧ Below w.heap.size w w' := by
  go_enter Try.func32, Try.ntmps32
  refine wp_seq (wp_region_list (Great.wpList_readTo rfl (some 0) rfl (.slice none 0 0) (by kernel_rfl) (wpList_nil ?_)))
  dsimp only [Exit.then]
  refine wp_seq (wp_region_list ?_)
  refine Great.wpList_readTo rfl (some 1) rfl (.agg #[.string ⟨#[104, 115, 101, 116]⟩, .int .i64 5, .int .i64 (-4), .bool true, .int .i64 1, .int .i64 1, .int .i64 1]) (by kernel_rfl) ?_
  refine Great.wpList_readTo rfl (some 2) rfl (.agg #[.string ⟨#[104, 115, 101, 116, 110, 120]⟩, .int .i64 5, .int .i64 4, .bool true, .int .i64 1, .int .i64 1, .int .i64 1]) (by kernel_rfl) ?_
  refine Great.wpList_readTo rfl (some 3) rfl (.agg #[.string ⟨#[104, 103, 101, 116]⟩, .int .i64 5, .int .i64 3, .bool false, .int .i64 1, .int .i64 1, .int .i64 1]) (by kernel_rfl) ?_
  refine Great.wpList_readTo rfl (some 4) rfl (.agg #[.string ⟨#[104, 109, 103, 101, 116]⟩, .int .i64 5, .int .i64 (-3), .bool false, .int .i64 1, .int .i64 1, .int .i64 1]) (by kernel_rfl) ?_
  refine Great.wpList_readTo rfl (some 5) rfl (.agg #[.string ⟨#[104, 100, 101, 108]⟩, .int .i64 5, .int .i64 (-3), .bool true, .int .i64 1, .int .i64 1, .int .i64 1]) (by kernel_rfl) ?_
  refine Great.wpList_readTo rfl (some 6) rfl (.agg #[.string ⟨#[104, 101, 120, 105, 115, 116, 115]⟩, .int .i64 5, .int .i64 3, .bool false, .int .i64 1, .int .i64 1, .int .i64 1]) (by kernel_rfl) ?_
  refine Great.wpList_readTo rfl (some 7) rfl (.agg #[.string ⟨#[104, 108, 101, 110]⟩, .int .i64 5, .int .i64 2, .bool false, .int .i64 1, .int .i64 1, .int .i64 1]) (by kernel_rfl) ?_
  refine Great.wpList_readTo rfl (some 8) rfl (.agg #[.string ⟨#[104, 107, 101, 121, 115]⟩, .int .i64 5, .int .i64 2, .bool false, .int .i64 1, .int .i64 1, .int .i64 1]) (by kernel_rfl) ?_
  refine Great.wpList_readTo rfl (some 9) rfl (.agg #[.string ⟨#[104, 118, 97, 108, 115]⟩, .int .i64 5, .int .i64 2, .bool false, .int .i64 1, .int .i64 1, .int .i64 1]) (by kernel_rfl) ?_
  refine Great.wpList_readTo rfl (some 10) rfl (.agg #[.string ⟨#[104, 103, 101, 116, 97, 108, 108]⟩, .int .i64 5, .int .i64 2, .bool false, .int .i64 1, .int .i64 1, .int .i64 1]) (by kernel_rfl) ?_
  refine Great.wpList_readTo rfl (some 11) rfl (.agg #[.string ⟨#[104, 105, 110, 99, 114, 98, 121]⟩, .int .i64 5, .int .i64 4, .bool true, .int .i64 1, .int .i64 1, .int .i64 1]) (by kernel_rfl) ?_
  refine Great.wpList_readTo rfl (some 12) rfl (.agg #[.string ⟨#[104, 115, 116, 114, 108, 101, 110]⟩, .int .i64 5, .int .i64 3, .bool false, .int .i64 1, .int .i64 1, .int .i64 1]) (by kernel_rfl) ?_
  refine Great.wpList_buildSliceTo rfl 23 27 12 _ rfl _ rfl (some 13) rfl Try.underlying23 (scells (rw5.map (toSp 5))).toArray (by kernel_rfl) ?_
  refine Great.wpList_readTo rfl (some 0) rfl (.slice (some ⟨w.heap.size, 0, none⟩) 12 12) (by kernel_rfl) (wpList_nil ?_)
  dsimp only [Exit.then]
  refine wp_ret (bodyPost_ret (v := .slice (some ⟨w.heap.size, 0, none⟩) 12 12) (by kernel_rfl) rfl ?_)
  exact ⟨_, _, rfl, SpAt.lit w (rw5.map (toSp 5)) _ rfl (by decide) (by decide) _ rfl _ rfl, (Below.refl _ _).alloc (Nat.le_refl _) _⟩

set_option maxRecDepth 100000 in
set_option maxHeartbeats 8000000 in
theorem rows6_any (w : World) : Calls Try.prog 33 #[] w fun e w' => ∃ A c, e = .returned (.slice A 16 c) ∧ SpAt w' A 16 c (rw6.map (toSp 6)) ∧ Below w.heap.size w w' := by
  go_enter Try.func33, Try.ntmps33
  refine wp_seq (wp_region_list (Great.wpList_readTo rfl (some 0) rfl (.slice none 0 0) (by kernel_rfl) (wpList_nil ?_)))
  dsimp only [Exit.then]
  refine wp_seq (wp_region_list ?_)
  refine Great.wpList_readTo rfl (some 1) rfl (.agg #[.string ⟨#[100, 101, 108]⟩, .int .i64 6, .int .i64 (-2), .bool true, .int .i64 1, .int .i64 (-1), .int .i64 1]) (by kernel_rfl) ?_
  refine Great.wpList_readTo rfl (some 2) rfl (.agg #[.string ⟨#[101, 120, 105, 115, 116, 115]⟩, .int .i64 6, .int .i64 (-2), .bool false, .int .i64 1, .int .i64 (-1), .int .i64 1]) (by kernel_rfl) ?_
  refine Great.wpList_readTo rfl (some 3) rfl (.agg #[.string ⟨#[116, 121, 112, 101]⟩, .int .i64 6, .int .i64 2, .bool false, .int .i64 1, .int .i64 1, .int .i64 1]) (by kernel_rfl) ?_
  refine Great.wpList_readTo rfl (some 4) rfl (.agg #[.string ⟨#[101, 120, 112, 105, 114, 101]⟩, .int .i64 6, .int .i64 3, .bool true, .int .i64 1, .int .i64 1, .int .i64 1]) (by kernel_rfl) ?_
  refine Great.wpList_readTo rfl (some 5) rfl (.agg #[.string ⟨#[112, 101, 120, 112, 105, 114, 101]⟩, .int .i64 6, .int .i64 3, .bool true, .int .i64 1, .int .i64 1, .int .i64 1]) (by kernel_rfl) ?_
  refine Great.wpList_readTo rfl (some 6) rfl (.agg #[.string ⟨#[101, 120, 112, 105, 114, 101, 97, 116]⟩, .int .i64 6, .int .i64 3, .bool true, .int .i64 1, .int .i64 1, .int .i64 1]) (by kernel_rfl) ?_
  refine Great.wpList_readTo rfl (some 7) rfl (.agg #[.string ⟨#[112, 101, 120, 112, 105, 114, 101, 97, 116]⟩, .int .i64 6, .int .i64 3, .bool true, .int .i64 1, .int .i64 1, .int .i64 1]) (by kernel_rfl) ?_
  refine Great.wpList_readTo rfl (some 8) rfl (.agg #[.string ⟨#[116, 116, 108]⟩, .int .i64 6, .int .i64 2, .bool false, .int .i64 1, .int .i64 1, .int .i64 1]) (by kernel_rfl) ?_
  refine Great.wpList_readTo rfl (some 9) rfl (.agg #[.string ⟨#[112, 116, 116, 108]⟩, .int .i64 6, .int .i64 2, .bool false, .int .i64 1, .int .i64 1, .int .i64 1]) (by kernel_rfl) ?_
  refine Great.wpList_readTo rfl (some 10) rfl (.agg #[.string ⟨#[112, 101, 114, 115, 105, 115, 116]⟩, .int .i64 6, .int .i64 2, .bool true, .int .i64 1, .int .i64 1, .int .i64 1]) (by kernel_rfl) ?_
  refine Great.wpList_readTo rfl (some 11) rfl (.agg #[.string ⟨#[114, 101, 110, 97, 109, 101]⟩, .int .i64 6, .int .i64 3, .bool true, .int .i64 1, .int .i64 2, .int .i64 1]) (by kernel_rfl) ?_
  refine Great.wpList_readTo rfl (some 12) rfl (.agg #[.string ⟨#[114, 101, 110, 97, 109, 101, 110, 120]⟩, .int .i64 6, .int .i64 3, .bool true, .int .i64 1, .int .i64 2, .int .i64 1]) (by kernel_rfl) ?_
  refine Great.wpList_readTo rfl (some 13) rfl (.agg #[.string ⟨#[107, 101, 121, 115]⟩, .int .i64 6, .int .i64 2, .bool false, .int .i64 0, .int .i64 0, .int .i64 0]) (by kernel_rfl) ?_
  refine Great.wpList_readTo rfl (some 14) rfl (.agg #[.string ⟨#[114, 97, 110, 100, 111, 109, 107, 101, 121]⟩, .int .i64 6, .int .i64 1, .bool false, .int .i64 0, .int .i64 0, .int .i64 0]) (by kernel_rfl) ?_
  refine Great.wpList_readTo rfl (some 15) rfl (.agg #[.string ⟨#[100, 98, 115, 105, 122, 101]⟩, .int .i64 6, .int .i64 1, .bool false, .int .i64 0, .int .i64 0, .int .i64 0]) (by kernel_rfl) ?_
  refine Great.wpList_readTo rfl (some 16) rfl (.agg #[.string ⟨#[102, 108, 117, 115, 104, 97, 108, 108]⟩, .int .i64 6, .int .i64 1, .bool true, .int .i64 0, .int .i64 0, .int .i64 0]) (by kernel_rfl) ?_
  refine Great.wpList_buildSliceTo rfl 23 27 16 _ rfl _ rfl (some 17) rfl Try.underlying23 (scells (rw6.map (toSp 6))).toArray (by kernel_rfl) ?_
  refine Great.wpList_readTo rfl (some 0) rfl (.slice (some ⟨w.heap.size, 0, none⟩) 16 16) (by kernel_rfl) (wpList_nil ?_)
  dsimp only [Exit.then]
  refine wp_ret (bodyPost_ret (v := .slice (some ⟨w.heap.size, 0, none⟩) 16 16) (by kernel_rfl) rfl ?_)
  exact ⟨_, _, rfl, SpAt.lit w (rw6.map (toSp 6)) _ rfl (by decide) (by decide) _ rfl _ rfl, (Below.refl _ _).alloc (Nat.le_refl _) _⟩

set_option maxRecDepth 100000 in
set_option maxHeartbeats 8000000 in
theorem rows7_any (w : World) : Calls Try.prog 34 #[] w fun e w' => ∃ A c, e = .returned (.slice A 8 c) ∧ SpAt w' A 8 c (rw7.map (toSp 7)) ∧ Below w.heap.size w w' := by
  go_enter Try.func34, Try.ntmps34
  refine wp_seq (wp_region_list (Great.wpList_readTo rfl (some 0) rfl (.slice none 0 0) (by kernel_rfl) (wpList_nil ?_)))
  dsimp only [Exit.then]
  refine wp_seq (wp_region_list ?_)
  refine Great.wpList_readTo rfl (some 1) rfl (.agg #[.string ⟨#[112, 105, 110, 103]⟩, .int .i64 7, .int .i64 (-1), .bool false, .int .i64 0, .int .i64 0, .int .i64 0]) (by kernel_rfl) ?_
  refine Great.wpList_readTo rfl (some 2) rfl (.agg #[.string ⟨#[101, 99, 104, 111]⟩, .int .i64 7, .int .i64 2, .bool false, .int .i64 0, .int .i64 0, .int .i64 0]) (by kernel_rfl) ?_
  refine Great.wpList_readTo rfl (some 3) rfl (.agg #[.string ⟨#[119, 97, 105, 116]⟩, .int .i64 7, .int .i64 3, .bool false, .int .i64 0, .int .i64 0, .int .i64 0]) (by kernel_rfl) ?_
  refine Great.wpList_readTo rfl (some 4) rfl (.agg #[.string ⟨#[114, 101, 112, 108, 105, 99, 97, 111, 102]⟩, .int .i64 7, .int .i64 3, .bool false, .int .i64 0, .int .i64 0, .int .i64 0]) (by kernel_rfl) ?_
  refine Great.wpList_readTo rfl (some 5) rfl (.agg #[.string ⟨#[114, 101, 112, 108, 99, 111, 110, 102]⟩, .int .i64 7, .int .i64 (-1), .bool false, .int .i64 0, .int .i64 0, .int .i64 0]) (by kernel_rfl) ?_
  refine Great.wpList_readTo rfl (some 6) rfl (.agg #[.string ⟨#[112, 115, 121, 110, 99]⟩, .int .i64 7, .int .i64 3, .bool false, .int .i64 0, .int .i64 0, .int .i64 0]) (by kernel_rfl) ?_
  refine Great.wpList_readTo rfl (some 7) rfl (.agg #[.string ⟨#[114, 111, 108, 101]⟩, .int .i64 7, .int .i64 1, .bool false, .int .i64 0, .int .i64 0, .int .i64 0]) (by kernel_rfl) ?_
  refine Great.wpList_readTo rfl (some 8) rfl (.agg #[.string ⟨#[113, 117, 105, 116]⟩, .int .i64 7, .int .i64 1, .bool false, .int .i64 0, .int .i64 0, .int .i64 0]) (by kernel_rfl) ?_
  refine Great.wpList_buildSliceTo rfl 23 27 8 _ rfl _ rfl (some 9) rfl Try.underlying23 (scells (rw7.map (toSp 7))).toArray (by kernel_rfl) ?_
  refine Great.wpList_readTo rfl (some 0) rfl (.slice (some ⟨w.heap.size, 0, none⟩) 8 8) (by kernel_rfl) (wpList_nil ?_)
  dsimp only [Exit.then]
  refine wp_ret (bodyPost_ret (v := .slice (some ⟨w.heap.size, 0, none⟩) 8 8) (by kernel_rfl) rfl ?_)
  exact ⟨_, _, rfl, SpAt.lit w (rw7.map (toSp 7)) _ rfl (by decide) (by decide) _ rfl _ rfl, (Below.refl _ _).alloc (Nat.le_refl _) _⟩

end Go.Proofs.Ytinpimejiepahaa
