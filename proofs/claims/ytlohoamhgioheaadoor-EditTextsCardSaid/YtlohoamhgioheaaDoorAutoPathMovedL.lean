/-
  Texts that belong together: PathLastL, PathMovedL.
-/
import Derived.Test.YtlohoamhgioheaaDoorPathRight
import Derived.Test.YtlohoamhgioheaaDoorPathMoves
/-
  A path's last name, and the path without it (plain).
-/
namespace Go.Proofs.YtlohoamhgioheaaDoor
open Go.RowKit
set_option maxRecDepth 100000

/-- How many bytes up to the last slash, that one too. -/
def lastN (l : List UInt8) : Nat := (l.reverse.dropWhile (· != 47)).length
theorem lastN_snoc (l : List UInt8) (c : UInt8) : lastN (l ++ [c]) = if c = 47 then l.length + 1 else lastN l := by
  unfold lastN
  rw [List.reverse_append]
  simp only [List.reverse_cons, List.reverse_nil, List.nil_append, List.cons_append, List.dropWhile_cons]
  by_cases h : c = 47
  · subst h; simp
  · simp [h]
theorem lastN_le (l : List UInt8) : lastN l ≤ l.length := by
  unfold lastN
  have := (List.dropWhile_sublist (l := l.reverse) (fun x => x != 47)).length_le
  simpa using this

/-- A path's last name, and the path without it. -/
def baseB (p : ByteArray) : ByteArray := if rightL (toL p) then p.extract (lastN (toL p)) p.size else ⟨#[]⟩
def parentOk (p : ByteArray) : Bool := !p.toList.isEmpty && rightL (toL p)
def parentB (p : ByteArray) : ByteArray := if parentOk p then p.extract 0 (lastN (toL p) - 1) else ⟨#[]⟩
end Go.Proofs.YtlohoamhgioheaaDoor
/-
  Where a path goes that is moved (plain).
-/
namespace Go.Proofs.YtlohoamhgioheaaDoor
open Go.RowKit
set_option maxRecDepth 100000

/-- Where a path goes. -/
def movedB (p a b : ByteArray) : ByteArray := if b.toList.isEmpty then restP (restB p a) ⟨#[47]⟩ else b ++ restB p a
def moveOk (p a b : ByteArray) : Bool := okB p a && rightL (toL b) && rightL (toL (movedB p a b))

def movedV (p a b : ByteArray) : ByteArray := if moveOk p a b then movedB p a b else ⟨#[]⟩

theorem restP_size (s p : ByteArray) : (restP s p).size ≤ s.size := by
  unfold restP
  split
  · simp [ByteArray.size_extract]
  · exact Nat.le_refl _
theorem restB_size (p q : ByteArray) : (restB p q).size ≤ p.size + 1 := by
  unfold restB
  split
  · exact Nat.zero_le _
  · split
    · rw [ByteArray.size_append]; show 1 + p.size ≤ p.size + 1; omega
    · have := restP_size p q; omega
end Go.Proofs.YtlohoamhgioheaaDoor
