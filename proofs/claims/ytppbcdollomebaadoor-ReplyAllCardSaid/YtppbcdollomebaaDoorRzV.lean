/-
  The walks of both packages' All, at any bytes, none among them; the statement ReplyAll: it answers true. Conditions: the bytes lie in memory; the listed variables hold what the program's own text lays; the search's own measure holds a number.
-/
import Derived.Test.YtppbcdollomebaaDoorRzU
import Derived.Test.YtppbcdollomebaaDoorRzS
namespace Go.Proofs.YtppbcdollomebaaDoor
open Go.RowKit

set_option maxRecDepth 100000 in
set_option maxHeartbeats 4000000 in
theorem yall_nil (w : World) : Calls Tryd.prog 17 #[.slice none 0 0] w (AllPost w []) := by
  have hd : (decS []).2 = (0, 31) := by rw [(decS_eq []).2, replyS_short [] 8 0 (Nat.le_refl _)]
  have hall : allS [] 1 0 = ([], (0, 0)) := by rw [allS, if_pos (by rw [List.drop_nil, hd])]
  have HP := Lib.hid (fun (w' : World) (hb : Below w.heap.size w w') => (show AllPost w [] (.returned (.tuple #[.slice none 0 0, .int .i64 0, .int .i64 0])) w' from by
    unfold AllPost
    rw [show ([] : List UInt8).length + 1 = 1 from rfl, hall]
    exact ⟨hb, none, 0, rfl, .leaf 6 [] 0 ⟨#[]⟩ rfl⟩))
  clear hall
  go_enter Tryd.func17, Tryd.ntmps17
  go_wp2
  go_loopw [5, 6] (fun lv av wr => lv = .slice none 0 0 ∧ av = .int .i64 0 ∧ wr = w) (fun _ _ _ => 0)
  case atStart => exact ⟨rfl, rfl, rfl⟩
  case round =>
    obtain ⟨rfl, rfl, rfl⟩ := hrel
    go_wp2_with fail
    refine (ydecode_none _ _ _).mono ?_
    rintro e w1 ⟨hb1, rfl⟩
    unfold leafV
    have hbx := hb1.trans ((Below.refl w1.heap.size w1).alloc (Nat.le_refl _) (.cells #[.int .i64 0, .string ⟨#[]⟩, .int .i64 0, .slice none 0 0] 25) |>.mono hb1.size)
    go_wp2
    exact bodyPost_ret (v := .tuple #[.slice none 0 0, .int .i64 0, .int .i64 0]) (by simp [results, Tryd.results17, go_sem]) rfl (HP.out _ hbx)

set_option maxRecDepth 100000 in
set_option maxHeartbeats 4000000 in
theorem yall_empty (a : Addr) (cap : Nat) (w : World) : Calls Tryd.prog 17 #[.slice (some a) 0 cap] w (AllPost w []) := by
  have hd : (decS []).2 = (0, 31) := by rw [(decS_eq []).2, replyS_short [] 8 0 (Nat.le_refl _)]
  have hall : allS [] 1 0 = ([], (0, 0)) := by rw [allS, if_pos (by rw [List.drop_nil, hd])]
  have HP := Lib.hid (fun (w' : World) (hb : Below w.heap.size w w') => (show AllPost w [] (.returned (.tuple #[.slice none 0 0, .int .i64 0, .int .i64 0])) w' from by
    unfold AllPost
    rw [show ([] : List UInt8).length + 1 = 1 from rfl, hall]
    exact ⟨hb, none, 0, rfl, .leaf 6 [] 0 ⟨#[]⟩ rfl⟩))
  clear hall
  go_enter Tryd.func17, Tryd.ntmps17
  go_wp2
  go_loopw [5, 6] (fun lv av wr => lv = .slice none 0 0 ∧ av = .int .i64 0 ∧ wr = w) (fun _ _ _ => 0)
  case atStart => exact ⟨rfl, rfl, rfl⟩
  case round =>
    obtain ⟨rfl, rfl, rfl⟩ := hrel
    go_wp2_with fail
    refine (ydecode_none _ _ _).mono ?_
    rintro e w1 ⟨hb1, rfl⟩
    unfold leafV
    have hbx := hb1.trans ((Below.refl w1.heap.size w1).alloc (Nat.le_refl _) (.cells #[.int .i64 0, .string ⟨#[]⟩, .int .i64 0, .slice none 0 0] 25) |>.mono hb1.size)
    go_wp2
    exact bodyPost_ret (v := .tuple #[.slice none 0 0, .int .i64 0, .int .i64 0]) (by simp [results, Tryd.results17, go_sem]) rfl (HP.out _ hbx)

set_option maxRecDepth 100000 in
set_option maxHeartbeats 4000000 in
theorem dall_nil (w : World) : Calls Tryd.prog 18 #[.slice none 0 0] w (AllPost w []) := by
  have hd : (decS []).2 = (0, 31) := by rw [(decS_eq []).2, replyS_short [] 8 0 (Nat.le_refl _)]
  have hall : allS [] 1 0 = ([], (0, 0)) := by rw [allS, if_pos (by rw [List.drop_nil, hd])]
  have HP := Lib.hid (fun (w' : World) (hb : Below w.heap.size w w') => (show AllPost w [] (.returned (.tuple #[.slice none 0 0, .int .i64 0, .int .i64 0])) w' from by
    unfold AllPost
    rw [show ([] : List UInt8).length + 1 = 1 from rfl, hall]
    exact ⟨hb, none, 0, rfl, .leaf 6 [] 0 ⟨#[]⟩ rfl⟩))
  clear hall
  go_enter Tryd.func18, Tryd.ntmps18
  go_wp2
  go_loopw [5, 6] (fun lv av wr => lv = .slice none 0 0 ∧ av = .int .i64 0 ∧ wr = w) (fun _ _ _ => 0)
  case atStart => exact ⟨rfl, rfl, rfl⟩
  case round =>
    obtain ⟨rfl, rfl, rfl⟩ := hrel
    go_wp2_with fail
    refine (ddecode_ok _ 0 0 _ [] _ (fun h => absurd h (by simp)) (fun h => absurd h (by simp)) (bytes_nil _ _ _) (by simp) (Nat.zero_le _) (by first | omega | simp)).mono ?_
    rintro e w1 ⟨hb1, K, T, z, A2, l2, c2, rfl, _⟩
    rw [hd]
    have hbx := hb1.trans ((Below.refl w1.heap.size w1).alloc (Nat.le_refl _) (.cells #[.int .i64 K, .string T, .int .i64 z, .slice A2 l2 c2] 25) |>.mono hb1.size)
    go_wp2
    exact bodyPost_ret (v := .tuple #[.slice none 0 0, .int .i64 0, .int .i64 0]) (by simp [results, Tryd.results18, go_sem]) rfl (HP.out _ hbx)

set_option maxRecDepth 100000 in
set_option maxHeartbeats 4000000 in
theorem dall_empty (a : Addr) (cap : Nat) (hcm : cap ≤ 140737488351232) (w : World) : Calls Tryd.prog 18 #[.slice (some a) 0 cap] w (AllPost w []) := by
  have hd : (decS []).2 = (0, 31) := by rw [(decS_eq []).2, replyS_short [] 8 0 (Nat.le_refl _)]
  have hall : allS [] 1 0 = ([], (0, 0)) := by rw [allS, if_pos (by rw [List.drop_nil, hd])]
  have HP := Lib.hid (fun (w' : World) (hb : Below w.heap.size w w') => (show AllPost w [] (.returned (.tuple #[.slice none 0 0, .int .i64 0, .int .i64 0])) w' from by
    unfold AllPost
    rw [show ([] : List UInt8).length + 1 = 1 from rfl, hall]
    exact ⟨hb, none, 0, rfl, .leaf 6 [] 0 ⟨#[]⟩ rfl⟩))
  clear hall
  go_enter Tryd.func18, Tryd.ntmps18
  go_wp2
  go_loopw [5, 6] (fun lv av wr => lv = .slice none 0 0 ∧ av = .int .i64 0 ∧ wr = w) (fun _ _ _ => 0)
  case atStart => exact ⟨rfl, rfl, rfl⟩
  case round =>
    obtain ⟨rfl, rfl, rfl⟩ := hrel
    go_wp2_with fail
    refine (ddecode_ok _ 0 0 _ [] _ (fun h => absurd h (by simp)) (fun h => absurd h (by simp)) (bytes_nil _ _ _) (by simp) (Nat.zero_le _) (by first | omega | simp)).mono ?_
    rintro e w1 ⟨hb1, K, T, z, A2, l2, c2, rfl, _⟩
    rw [hd]
    have hbx := hb1.trans ((Below.refl w1.heap.size w1).alloc (Nat.le_refl _) (.cells #[.int .i64 K, .string T, .int .i64 z, .slice A2 l2 c2] 25) |>.mono hb1.size)
    go_wp2
    exact bodyPost_ret (v := .tuple #[.slice none 0 0, .int .i64 0, .int .i64 0]) (by simp [results, Tryd.results18, go_sem]) rfl (HP.out _ hbx)

theorem yall_any (A : Option Addr) (b o cap : Nat) (bs : List UInt8) (w : World) (h6 : 6 ≤ w.heap.size) (hA : bs ≠ [] → A = some ⟨b, o, none⟩ ∧ b < w.heap.size) (hn : A = none → cap = 0) (hat : BytesAt w b o bs) (hcl : bs.length ≤ cap) (hcm : cap ≤ 140737488351232) (hbig : bs.length ≤ 70000) (hT : Tabs8 w) :
    Calls Tryd.prog 17 #[.slice A bs.length cap] w (AllPost w bs) := by
  cases bs with
  | nil =>
    cases A with
    | none => obtain rfl := hn rfl; exact yall_nil w
    | some a => exact yall_empty a cap w
  | cons x r =>
    obtain ⟨rfl, hb⟩ := hA (by simp)
    exact yall_some b o cap (x :: r) w h6 hb hat hcl hcm hbig hT

theorem dall_any (A : Option Addr) (b o cap : Nat) (bs : List UInt8) (w : World) (hA : bs ≠ [] → A = some ⟨b, o, none⟩ ∧ b < w.heap.size) (hn : A = none → cap = 0) (hat : BytesAt w b o bs) (hcl : bs.length ≤ cap) (hcm : cap ≤ 140737488351232) (hbig : bs.length ≤ 70000) :
    Calls Tryd.prog 18 #[.slice A bs.length cap] w (AllPost w bs) := by
  cases bs with
  | nil =>
    cases A with
    | none => obtain rfl := hn rfl; exact dall_nil w
    | some a => exact dall_empty a cap hcm w
  | cons x r =>
    obtain ⟨rfl, hb⟩ := hA (by simp)
    exact dall_some b o cap (x :: r) w hb hat hcl hcm hbig

end Go.Proofs.YtppbcdollomebaaDoor
