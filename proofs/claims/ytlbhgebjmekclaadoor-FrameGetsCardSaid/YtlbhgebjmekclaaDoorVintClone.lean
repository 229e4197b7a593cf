/-
  slices.Clone of bytes.
-/
import Derived.Test.YtlbhgebjmekclaaDoorVintPut
namespace Go.Proofs.YtlbhgebjmekclaaDoor
open Go.RowKit
set_option maxRecDepth 100000

theorem some_nil (ad : Addr) (n c : Nat) (w : World) : Sem.run Tryd.prog (binOp BinOp.eql 28 (.slice (some ad) n c) (.slice none 0 0)) w = .ok (.bool false) w := by kernel_rfl
theorem none_nil (w : World) : Sem.run Tryd.prog (binOp BinOp.eql 28 (.slice none 0 0) (.slice none 0 0)) w = .ok (.bool true) w := by kernel_rfl
set_option maxHeartbeats 1000000 in
theorem clone_any (A : Option Addr) (l : List UInt8) (c : Nat) (w : World) (hR : RdB w w.heap.size A l) (hc : Caps A l.length c) (hl : l.length ≤ 1000000) :
    Calls Tryd.prog 42 #[.slice A l.length c] w (Bytes w l) := by
  obtain ⟨i0, hi, hz0, hz1, hz2⟩ := info_parts info_byte
  cases A with
  | none =>
    obtain rfl := hR.of_none
    obtain rfl := hc.2 rfl
    have hrun := none_nil
    go_enter Tryd.func42, Tryd.ntmps42
    go_wp2_with fail
    refine bodyPost_ret (results_tmp rfl _ _ _) rfl ⟨none, 0, rfl, ⟨Nat.le_refl _, fun _ => rfl⟩, RdB.nil _ _ _, Below.refl _ _⟩
  | some ad =>
    have hrun := some_nil ad l.length c
    have hO := World.ownsRow_lit (base := w.heap.size) (e := 5) (size := 1) w #[] 0 (Nat.le_refl _) (by decide) rfl
    have hR2 := hR.step ((Below.refl _ w).alloc (Nat.le_refl _) (.cells #[] 5))
    have hB : Below w.heap.size w (w.alloc (.cells #[] 5)) := (Below.refl _ w).alloc (Nat.le_refl _) _
    have hl2 : (l.length : Int) ≤ 1000000 := by omega
    go_enter Tryd.func42, Tryd.ntmps42
    go_wp2_with (at_builtin; refine wpList_append_bytes rfl _ _ 28 rfl w.heap.size 5 i0 Tryd.underlying28 hi hz0 hz1 hz2 _ 0 [] rfl hO (some ad) _ c _ l rfl rfl hR2 (by unfold maxLen; omega) (by omega) (by simp) ?_)
    intro v' w' hO3 hg3
    obtain ⟨A, cc, rfl⟩ := ownsRow_slice hO3
    have hB' := hB.grown hg3 hB.size (fun r e => (hO.lt r e).1)
    go_wp2_with fail
    refine bodyPost_ret (results_tmp rfl _ _ _) rfl ⟨A, cc, rfl, ownsRow_caps hO3, RdB.own hO3, hB'⟩

end Go.Proofs.YtlbhgebjmekclaaDoor
