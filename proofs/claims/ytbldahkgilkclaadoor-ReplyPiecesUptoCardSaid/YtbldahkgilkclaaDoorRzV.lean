/-
  The walks of both packages' All, at any bytes, none among them; the statement ReplyAll: it answers true. Conditions: the bytes lie in memory; the listed variables hold what the program's own text lays; the search's own measure holds a number.
-/
import Derived.Test.YtbldahkgilkclaaDoorRzU
import Derived.Test.YtbldahkgilkclaaDoorRzS
namespace Go.Proofs.YtbldahkgilkclaaDoor
open Go.RowKit

set_option maxRecDepth 100000 in
set_option maxHeartbeats 4000000 in
theorem yall_nil (w : World) : Calls Tryd.prog 14 #[.slice none 0 0] w (AllPost w []) := by
  have hd : (decS []).2 = (0, 31) := by rw [(decS_eq []).2, replyS_short [] 8 0 (Nat.le_refl _)]
  have hall : allS [] 1 0 = ([], (0, 0)) := by rw [allS, if_pos (by rw [List.drop_nil, hd])]
  have HP := Lib.hid (fun (w' : World) (hb : Below w.heap.size w w') => (show AllPost w [] (.returned (.tuple #[.slice none 0 0, .int .i64 0, .int .i64 0])) w' from by
    unfold AllPost
    rw [show ([] : List UInt8).length + 1 = 1 from rfl, hall]
    exact ⟨hb, none, 0, rfl, .leaf 6 [] 0 ⟨#[]⟩ rfl⟩))
  clear hall
  go_enter Tryd.func14, Tryd.ntmps14
  go_wp2
  go_loopw [5, 6] (fun lv av wr => lv = .slice none 0 0 ∧ av = .int .i64 0 ∧ wr = w) (fun _ _ _ => 0)
  case atStart => exact ⟨rfl, rfl, rfl⟩
  case round =>
    obtain ⟨rfl, rfl, rfl⟩ := hrel
    go_wp2_with fail
    refine (ydecode_none _ _ _).mono ?_
    rintro e w1 ⟨hb1, rfl⟩
    unfold leafV
    have hbx := hb1.trans ((Below.refl w1.heap.size w1).alloc (Nat.le_refl _) (.cells #[.int .i64 0, .string ⟨#[]⟩, .int .i64 0, .slice none 0 0] 25) |>.mono hb1.size)
    go_wp2
    exact bodyPost_ret (v := .tuple #[.slice none 0 0, .int .i64 0, .int .i64 0]) (by simp [results, Tryd.results14, go_sem]) rfl (HP.out _ hbx)

set_option maxRecDepth 100000 in
set_option maxHeartbeats 4000000 in
theorem yall_empty (a : Addr) (cap : Nat) (w : World) : Calls Tryd.prog 14 #[.slice (some a) 0 cap] w (AllPost w []) := by
  have hd : (decS []).2 = (0, 31) := by rw [(decS_eq []).2, replyS_short [] 8 0 (Nat.le_refl _)]
  have hall : allS [] 1 0 = ([], (0, 0)) := by rw [allS, if_pos (by rw [List.drop_nil, hd])]
  have HP := Lib.hid (fun (w' : World) (hb : Below w.heap.size w w') => (show AllPost w [] (.returned (.tuple #[.slice none 0 0, .int .i64 0, .int .i64 0])) w' from by
    unfold AllPost
    rw [show ([] : List UInt8).length + 1 = 1 from rfl, hall]
    exact ⟨hb, none, 0, rfl, .leaf 6 [] 0 ⟨#[]⟩ rfl⟩))
  clear hall
  go_enter Tryd.func14, Tryd.ntmps14
  go_wp2
  go_loopw [5, 6] (fun lv av wr => lv = .slice none 0 0 ∧ av = .int .i64 0 ∧ wr = w) (fun _ _ _ => 0)
  case atStart => exact ⟨rfl, rfl, rfl⟩
  case round =>
    obtain ⟨rfl, rfl, rfl⟩ := hrel
    go_wp2_with fail
    refine (ydecode_none _ _ _).mono ?_
    rintro e w1 ⟨hb1, rfl⟩
    unfold leafV
    have hbx := hb1.trans ((Below.refl w1.heap.size w1).alloc (Nat.le_refl _) (.cells #[.int .i64 0, .string ⟨#[]⟩, .int .i64 0, .slice none 0 0] 25) |>.mono hb1.size)
    go_wp2
    exact bodyPost_ret (v := .tuple #[.slice none 0 0, .int .i64 0, .int .i64 0]) (by simp [results, Tryd.results14, go_sem]) rfl (HP.out _ hbx)

theorem yall_any (A : Option Addr) (b o cap : Nat) (bs : List UInt8) (w : World) (h6 : 6 ≤ w.heap.size) (hA : bs ≠ [] → A = some ⟨b, o, none⟩ ∧ b < w.heap.size) (hn : A = none → cap = 0) (hat : BytesAt w b o bs) (hcl : bs.length ≤ cap) (hcm : cap ≤ 9223372036854775807) (hbig : bs.length ≤ 100000000) (hT : Tabs8 w) :
    Calls Tryd.prog 14 #[.slice A bs.length cap] w (AllPost w bs) := by
  cases bs with
  | nil =>
    cases A with
    | none => obtain rfl := hn rfl; exact yall_nil w
    | some a => exact yall_empty a cap w
  | cons x r =>
    obtain ⟨rfl, hb⟩ := hA (by simp)
    exact yall_some b o cap (x :: r) w h6 hb hat hcl hcm hbig hT

end Go.Proofs.YtbldahkgilkclaaDoor
