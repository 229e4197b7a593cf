/-
  What package strings answers for a separator of one byte: where it first stands.
-/
import Derived.Test.YtlohoamhgioheaaDoorProg
import Derived.Test.YtlohoamhgioheaaDoorBase
import Derived.WalkKit
import Derived.WalkSpells
import Derived.Lib.IndexLaws
import Derived.Lib.Bytealg
import Derived.Lib.Strings
namespace Go.Proofs.YtlohoamhgioheaaDoor
open Go.RowKit
set_option maxRecDepth 100000

set_option maxHeartbeats 400000 in
theorem indexByte_any (s : ByteArray) (c : UInt8) (w : World) :
    Calls Tryd.prog 62 #[.string s, .int .u8 c.toNat] w fun e w' => e = .returned (.int .i64 (Lib.indexByte s.data.toList c)) ∧ w = w' := by
  go_enter Tryd.func62, Tryd.ntmps62
  go_wp2
  rw [run_callFunc_extern Tryd.func78 (by kernel_rfl) (by kernel_rfl) (by kernel_rfl) (e := Extern.BytealgIndexByte.indexByte) (by kernel_rfl), Lib.run_indexByteString]
  simp only [Result.andThen]
  rw [Oper.upon_value]
  go_wp2
  go_ret
  exact ⟨by simp, rfl⟩

set_option maxRecDepth 100000 in
set_option maxHeartbeats 1000000 in
theorem slIndex_any (s : ByteArray) (c : UInt8) (w : World) :
    Calls Tryd.prog 72 #[.string s, .string ⟨#[c]⟩] w fun e w' => e = .returned (.int .i64 (Lib.indexByte s.data.toList c)) ∧ w = w' := by
  cases hE : ([c] == s.toList) with
  | true =>
    have e : s.data.toList = [c] := by rw [← Lib.toList_data]; exact (beq_iff_eq.1 hE).symm
    have HR := hide (show Lib.indexByte s.data.toList c = 0 by rw [e]; simp [Lib.indexByte])
    clear e
    go_enter Tryd.func72, Tryd.ntmps72
    go_wp2
    go_ret
    exact ⟨by rw [HR.out]; rfl, rfl⟩
  | false =>
    go_enter Tryd.func72, Tryd.ntmps72
    go_wp2_with (go_at_call 62; refine (indexByte_any s c _).mono ?_; rintro e w' ⟨rfl, rfl⟩)
    go_ret
    exact ⟨rfl, rfl⟩

set_option maxHeartbeats 400000 in
theorem index_any (s : ByteArray) (c : UInt8) (w : World) :
    Calls Tryd.prog 86 #[.string s, .string ⟨#[c]⟩] w fun e w' => e = .returned (.int .i64 (Lib.indexByte s.data.toList c)) ∧ w = w' := by
  go_enter Tryd.func86, Tryd.ntmps86
  go_wp2_with fail
  refine (slIndex_any s c _).mono ?_
  rintro e w1 ⟨rfl, rfl⟩
  go_wp2
  go_ret
  exact ⟨rfl, rfl⟩

/-! ### paths.Name -/
def letter (n : Int) : Bool := (decide (97 ≤ n) && decide (n ≤ 122)) || (decide (65 ≤ n) && decide (n ≤ 90)) || (decide (48 ≤ n) && decide (n ≤ 57)) || n == 46 || n == 95 || n == 45

set_option maxHeartbeats 800000 in
theorem ofName_any (n : Int) (w : World) :
    Calls Tryd.prog 70 #[.int .u8 n] w fun e w' => e = .returned (.bool (letter n)) ∧ w = w' := by
  by_cases e46 : n = 46
  · subst e46
    go_enter Tryd.func70, Tryd.ntmps70
    go_wp2
    go_ret
    exact ⟨rfl, rfl⟩
  by_cases e95 : n = 95
  · subst e95
    go_enter Tryd.func70, Tryd.ntmps70
    go_wp2
    go_ret
    exact ⟨rfl, rfl⟩
  by_cases e45 : n = 45
  · subst e45
    go_enter Tryd.func70, Tryd.ntmps70
    go_wp2
    go_ret
    exact ⟨rfl, rfl⟩
  have d46 : (n == 46) = false := beq_eq_false_iff_ne.2 e46
  have d95 : (n == 95) = false := beq_eq_false_iff_ne.2 e95
  have d45 : (n == 45) = false := beq_eq_false_iff_ne.2 e45
  clear e46 e95 e45
  by_cases r0 : n < 48
  · have HL := hide (show letter n = false by unfold letter; rw [d46, d95, d45]; simp; omega)
    have f0 : ¬ 97 ≤ n := by omega
    have f1 : ¬ 65 ≤ n := by omega
    have f2 : ¬ 48 ≤ n := by omega
    clear r0
    go_enter Tryd.func70, Tryd.ntmps70
    go_wp2
    go_ret
    exact ⟨by rw [HL.out]; rfl, rfl⟩
  by_cases r1 : 48 ≤ n ∧ n ≤ 57
  · have HL := hide (show letter n = true by unfold letter; rw [d46, d95, d45]; simp; omega)
    have f0 : ¬ 97 ≤ n := by omega
    have f1 : ¬ 65 ≤ n := by omega
    have f2 : 48 ≤ n := by omega
    have f3 : n ≤ 57 := by omega
    clear r1
    go_enter Tryd.func70, Tryd.ntmps70
    go_wp2
    go_ret
    exact ⟨by rw [HL.out]; rfl, rfl⟩
  by_cases r2 : 57 < n ∧ n < 65
  · have HL := hide (show letter n = false by unfold letter; rw [d46, d95, d45]; simp; omega)
    have f0 : ¬ 97 ≤ n := by omega
    have f1 : ¬ 65 ≤ n := by omega
    have f2 : 48 ≤ n := by omega
    have f3 : ¬ n ≤ 57 := by omega
    clear r2
    go_enter Tryd.func70, Tryd.ntmps70
    go_wp2
    go_ret
    exact ⟨by rw [HL.out]; rfl, rfl⟩
  by_cases r3 : 65 ≤ n ∧ n ≤ 90
  · have HL := hide (show letter n = true by unfold letter; rw [d46, d95, d45]; simp; omega)
    have f0 : ¬ 97 ≤ n := by omega
    have f1 : 65 ≤ n := by omega
    have f2 : n ≤ 90 := by omega
    clear r3
    go_enter Tryd.func70, Tryd.ntmps70
    go_wp2
    go_ret
    exact ⟨by rw [HL.out]; rfl, rfl⟩
  by_cases r4 : 90 < n ∧ n < 97
  · have HL := hide (show letter n = false by unfold letter; rw [d46, d95, d45]; simp; omega)
    have f0 : ¬ 97 ≤ n := by omega
    have f1 : 65 ≤ n := by omega
    have f2 : ¬ n ≤ 90 := by omega
    have f3 : 48 ≤ n := by omega
    have f4 : ¬ n ≤ 57 := by omega
    clear r4
    go_enter Tryd.func70, Tryd.ntmps70
    go_wp2
    go_ret
    exact ⟨by rw [HL.out]; rfl, rfl⟩
  by_cases r5 : 97 ≤ n ∧ n ≤ 122
  · have HL := hide (show letter n = true by unfold letter; rw [d46, d95, d45]; simp; omega)
    have f0 : 97 ≤ n := by omega
    have f1 : n ≤ 122 := by omega
    clear r5
    go_enter Tryd.func70, Tryd.ntmps70
    go_wp2
    go_ret
    exact ⟨by rw [HL.out]; rfl, rfl⟩
  by_cases r6 : 122 < n
  · have HL := hide (show letter n = false by unfold letter; rw [d46, d95, d45]; simp; omega)
    have f0 : 97 ≤ n := by omega
    have f1 : ¬ n ≤ 122 := by omega
    have f2 : 65 ≤ n := by omega
    have f3 : ¬ n ≤ 90 := by omega
    have f4 : 48 ≤ n := by omega
    have f5 : ¬ n ≤ 57 := by omega
    clear r6
    go_enter Tryd.func70, Tryd.ntmps70
    go_wp2
    go_ret
    exact ⟨by rw [HL.out]; rfl, rfl⟩
  omega
end Go.Proofs.YtlohoamhgioheaaDoor
