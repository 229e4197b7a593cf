/-
  bytes.Clone: a row of the call's own.
-/
import Derived.Test.YtfknfpngcnianaaBytes
namespace Go.Proofs.Ytfknfpngcnianaa
open Go.RowKit
set_option maxRecDepth 100000

theorem cl_some (ad : Addr) (n c : Nat) (w : World) : Sem.run Try.prog (binOp BinOp.eql 41 (.slice (some ad) n c) (.slice none 0 0)) w = .ok (.bool false) w := by kernel_rfl
theorem cl_none (w : World) : Sem.run Try.prog (binOp BinOp.eql 41 (.slice none 0 0) (.slice none 0 0)) w = .ok (.bool true) w := by kernel_rfl
theorem cl_info {i : Option TypeInfo} {a b : Nat} {v : Value} (h : i.map (fun i => (i.zero, i.size, i.bytes)) = some (some v, a, b)) : ∃ i0, i = some i0 ∧ i0.zero = some v ∧ i0.size = a ∧ i0.bytes = b := by
  cases i with
  | none => cases h
  | some i => injection h with h; injection h with h1 h2; injection h2 with h2 h3; exact ⟨i, rfl, h1, h2, h3⟩
/-- A clone: no slice, or bytes in a row of the call's own. -/
def Cloned (w0 : World) (l : List UInt8) (e : Ending) (w' : World) : Prop :=
  ∃ A c, e = .returned (.slice A l.length c) ∧ w'.ownsRow w0.heap.size 5 1 (.slice A l.length c) l.length (l.map byteV) ∧ Below w0.heap.size w0 w'

set_option maxHeartbeats 1000000 in
theorem clone_own (A : Option Addr) (l : List UInt8) (c : Nat) (w : World) (hR : RdB w w.heap.size A l) (hc : Caps A l.length c) (hl : l.length ≤ 1000000) :
    Calls Try.prog 27 #[.slice A l.length c] w (Cloned w l) := by
  obtain ⟨i0, hi, hz0, hz1, hz2⟩ := cl_info info_byte
  cases A with
  | none =>
    obtain rfl := hR.of_none
    obtain rfl := hc.2 rfl
    have hrun := cl_none
    go_enter Try.func27, Try.ntmps27
    go_wp2_with fail
    refine bodyPost_ret (results_tmp rfl _ _ _) rfl ⟨none, 0, rfl, ?_, Below.refl _ _⟩
    exact World.ownsRow_nil _ _ _ _
  | some ad =>
    have hrun := cl_some ad l.length c
    have hO := World.ownsRow_lit (base := w.heap.size) (e := 5) (size := 1) w #[] 0 (Nat.le_refl _) (by decide) rfl
    have hR2 := hR.step ((Below.refl _ w).alloc (Nat.le_refl _) (.cells #[] 5))
    have hB : Below w.heap.size w (w.alloc (.cells #[] 5)) := (Below.refl _ w).alloc (Nat.le_refl _) _
    have hl2 : (l.length : Int) ≤ 1000000 := by omega
    go_enter Try.func27, Try.ntmps27
    go_wp2_with (at_builtin; refine wpList_append_bytes rfl _ _ 41 rfl w.heap.size 5 i0 Try.underlying41 hi hz0 hz1 hz2 _ 0 [] rfl hO (some ad) _ c _ l rfl rfl hR2 (by unfold maxLen; omega) (by omega) (by simp) ?_)
    intro v' w' hO3 hg3
    obtain ⟨A, cc, rfl⟩ := ownsRow_slice hO3
    have hB' := hB.grown hg3 hB.size (fun r e => (hO.lt r e).1)
    go_wp2_with fail
    refine bodyPost_ret (results_tmp rfl _ _ _) rfl ⟨A, cc, ?_, ?_, hB'⟩
    · simp
    · simpa using hO3
theorem Cloned.bytes {w0 : World} {l : List UInt8} {e : Ending} {w' : World} (h : Cloned w0 l e w') : Bytes w0 l e w' := by
  obtain ⟨A, c, h1, h2, h3⟩ := h
  exact ⟨A, c, h1, ownsRow_caps h2, RdB.own h2, h3⟩
end Go.Proofs.Ytfknfpngcnianaa
