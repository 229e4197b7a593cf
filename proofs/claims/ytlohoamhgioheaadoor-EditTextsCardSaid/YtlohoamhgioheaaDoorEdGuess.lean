/-
  edit.guess and its closure.
-/
import Derived.Test.YtlohoamhgioheaaDoorEdAtoi
import Derived.Test.YtlohoamhgioheaaDoorSuf
import Derived.Test.YtlohoamhgioheaaDoorEdLine
namespace Go.Proofs.YtlohoamhgioheaaDoor
open Go.RowKit
set_option maxRecDepth 100000

/-- What stands ahead of the first blank, and behind it. -/
def hdB (s : ByteArray) : ByteArray := ⟨(headW (toL s)).toArray⟩
def tlB (s : ByteArray) : ByteArray := ⟨(tailW (toL s)).toArray⟩
theorem bytes_ext {a b : ByteArray} (h : toL a = toL b) : a = b := by
  obtain ⟨⟨a⟩⟩ := a
  obtain ⟨⟨b⟩⟩ := b
  have : a = b := h
  rw [this]
theorem hd_toL (s : ByteArray) : toL (hdB s) = headW (toL s) := by unfold hdB; simp [toL]
theorem tl_toL (s : ByteArray) : toL (tlB s) = tailW (toL s) := by unfold tlB; simp [toL]
theorem hd_size (s : ByteArray) : (hdB s).size ≤ s.size ∧ (tlB s).size ≤ s.size := by
  have h := head_len (toL s)
  have h1 := hd_toL s
  have h2 := tl_toL s
  have e : ∀ x : ByteArray, (toL x).length = x.size := fun x => by simp [toL]
  rw [← h1, ← h2, e, e, e] at h
  exact h
theorem blank_any (s : ByteArray) (w : World) (hs : (s.size : Int) ≤ 1000000) :
    Calls Tryd.prog 45 #[.string s, .string ⟨#[32]⟩] w fun e w' => ∃ b n, e = .returned (.tuple #[.string (hdB s), .string (tlB s), .bool b]) ∧ w' = w.drewN n := by
  rcases index_cases s.data.toList 32 with h | ⟨o, h⟩
  · obtain ⟨q1, q2⟩ := head_none _ h
    refine (cut_none s 32 h w).mono ?_
    rintro e w' ⟨rfl, n, rfl⟩
    refine ⟨false, n, ?_, rfl⟩
    rw [show hdB s = s from bytes_ext (by rw [hd_toL]; exact q1), show tlB s = ⟨#[]⟩ from bytes_ext (by rw [tl_toL]; exact q2)]
  · obtain ⟨q1, q2⟩ := head_some _ o h
    refine (cut_some s 32 o h w (by omega)).mono ?_
    rintro e w' ⟨rfl, n, rfl⟩
    refine ⟨true, n, ?_, rfl⟩
    rw [show hdB s = s.extract 0 o from bytes_ext (by rw [hd_toL, toL_ext]; exact q1), show tlB s = s.extract (o + 1) s.size from bytes_ext (by
      rw [tl_toL, toL_ext, List.take_of_length_le (by rw [List.length_drop]; simp [toL])]; exact q2)]
set_option maxHeartbeats 1000000 in
theorem next_any (b : Nat) (s : ByteArray) (w : World) (hs : (s.size : Int) ≤ 1000000) (hb : w.heap[b]? = some (.cells #[.string s] 9 (0, 0))) :
    Calls Tryd.prog 44 #[.pointer (some ⟨b, 0, none⟩)] w fun e w' => e = .returned (.string (hdB s)) ∧ ∃ n, w' = (w.drewN n).setCell ⟨b, 0, none⟩ (.string (tlB s)) := by
  have c0 : w.cell? ⟨b, 0, none⟩ = some (.string s) := cell_of_row _ _ _ _ _ _ hb
  have z0 : w.frozen? ⟨b, 0, none⟩ = false := frozen_of_row _ _ _ _ _ hb
  have HC := hide (blank_any s w hs)
  go_enter Tryd.func44, Tryd.ntmps44
  go_wp2_with fail
  refine (HC.out).mono ?_
  rintro e w1 ⟨q, n, rfl, rfl⟩
  go_wp2_with fail
  exact bodyPost_ret (results_tmp rfl _ _ _) rfl ⟨rfl, n, rfl⟩
end Go.Proofs.YtlohoamhgioheaaDoor
