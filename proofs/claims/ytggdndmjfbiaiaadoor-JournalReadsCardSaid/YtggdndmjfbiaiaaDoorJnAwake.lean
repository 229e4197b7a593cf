/-
  The law's own awake: the page's example.
-/
import Derived.Test.YtggdndmjfbiaiaaDoorJnRead
import Derived.Test.YtggdndmjfbiaiaaDoorJnLineMath
namespace Go.Proofs.YtggdndmjfbiaiaaDoor
open Go.RowKit
set_option maxRecDepth 100000

theorem ex_start : lineJ 1 1 = [115, 116, 97, 114, 116, 32, 49, 10] := by decide +kernel
theorem ex_did : lineB 3 12 = ⟨#[100, 105, 100, 32, 49, 50, 10]⟩ := by decide +kernel
theorem ex_read : (readJ (linesL (toL ⟨#[115, 116, 97, 114, 116, 32, 49, 10, 100, 105, 100]⟩))).length = 1 := by
  have h := read_line (k := 1) (n := 1) (by decide) [100, 105, 100]
  rw [ex_start] at h
  show (readJ (linesL ([115, 116, 97, 114, 116, 32, 49, 10] ++ [100, 105, 100]))).length = 1
  rw [h, read_bare (by decide)]
  rfl
theorem jread_any (s : ByteArray) (w : World) (hs : (s.size : Int) ≤ 100000) (hT : Tabs w) : Calls Tryd.prog 8 #[.string s] w (ReadTo (readJ (linesL (toL s))) w) := callsIn_wide.1 (jread_in s w hs hT)
set_option maxHeartbeats 2000000 in
theorem jawake_any (w : World) (hT : Tabs w) : Calls Tryd.prog 6 #[] w fun e w' => e = .returned (.bool true) ∧ Below w.heap.size w w' := by
  have HR := hide (jread_any ⟨#[115, 116, 97, 114, 116, 32, 49, 10, 100, 105, 100]⟩ w (by decide) hT)
  have hl := ex_read
  obtain ⟨R, hRe⟩ : ∃ R, R = readJ (linesL (toL ⟨#[115, 116, 97, 114, 116, 32, 49, 10, 100, 105, 100]⟩)) := ⟨_, rfl⟩
  rw [← hRe] at HR hl
  have HL := hide (fun W (hb : Below w.heap.size w W) => line_any 3 12 W (hT.below hb))
  rw [ex_did] at HL
  unfold ReadTo at HR
  rw [hl] at HR
  clear hRe hT
  go_enter Tryd.func6, Tryd.ntmps6
  go_wp2_with fail
  refine (HR.out).mono ?_
  rintro e w1 ⟨A, c, rfl, hb1, _, _⟩
  have HB1 := hide hb1
  clear hb1
  go_wp2_with fail
  refine (HL.out _ HB1.out).mono ?_
  rintro e w2 ⟨rfl, hb2⟩
  have HB2 := hide (HB1.out.trans (hb2.mono HB1.out.size))
  clear hb2
  go_wp2_with fail
  exact bodyPost_ret (results_tmp rfl _ _ _) rfl ⟨rfl, HB2.out⟩
end Go.Proofs.YtggdndmjfbiaiaaDoor
