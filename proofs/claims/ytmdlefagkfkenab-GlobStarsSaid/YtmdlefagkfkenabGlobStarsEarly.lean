/-
  The law GlobStars's walk: the ways that end early.
-/
import Derived.Test.YtmdlefagkfkenabGlobAwake
import Derived.Test.YtmdlefagkfkenabGlobStarsMath
namespace Go.Proofs.Ytmdlefagkfkenab
open Go.RowKit
attribute [local go_sem] World.setCell_drewN' World.alloc_drewN'

theorem early_below {w w1 : World} {o o' : Obj} {n : Nat} (hb : Below (((w.alloc o).alloc o').drewN n).heap.size (((w.alloc o).alloc o').drewN n) w1) : Below w.heap.size w w1 :=
  (below_drewN (((Below.refl _ w).alloc (Nat.le_refl _) o).alloc (by simp) o') n).trans (hb.mono (by show _ ≤ ((w.alloc o).alloc o').heap.size; simp; omega))

set_option maxRecDepth 100000 in
set_option maxHeartbeats 1000000 in
theorem stars_e1 (a b p m q : ByteArray) (w : World) (h1 : (30 : Int) < a.size) :
    Calls Try.prog 3 #[.agg #[.string a, .string b], .agg #[.string p, .string m, .string q]] w fun e w' => e = .returned (.bool true) ∧ Below w.heap.size w w' := by
  go_enter Try.func3, Try.ntmps3
  go_upto_region 1 with fail
  go_quiet (fail)
  go_wp2_with fail
  refine (awake_any _).mono ?_
  rintro e w1 ⟨rfl, hb1⟩
  go_wp2
  go_ret
  exact ⟨rfl, early_below hb1⟩

set_option maxRecDepth 100000 in
set_option maxHeartbeats 1000000 in
theorem stars_e2 (a b p m q : ByteArray) (w : World) (h1 : ¬ (30 : Int) < a.size) (h2 : (30 : Int) < b.size) :
    Calls Try.prog 3 #[.agg #[.string a, .string b], .agg #[.string p, .string m, .string q]] w fun e w' => e = .returned (.bool true) ∧ Below w.heap.size w w' := by
  go_enter Try.func3, Try.ntmps3
  go_upto_region 1 with fail
  go_quiet (fail)
  go_wp2_with fail
  refine (awake_any _).mono ?_
  rintro e w1 ⟨rfl, hb1⟩
  go_wp2
  go_ret
  exact ⟨rfl, early_below hb1⟩

set_option maxRecDepth 100000 in
set_option maxHeartbeats 1000000 in
theorem stars_e3 (a b p m q : ByteArray) (w : World) (h1 : ¬ (30 : Int) < a.size) (h2 : ¬ (30 : Int) < b.size) (h3 : (60 : Int) < p.size) :
    Calls Try.prog 3 #[.agg #[.string a, .string b], .agg #[.string p, .string m, .string q]] w fun e w' => e = .returned (.bool true) ∧ Below w.heap.size w w' := by
  go_enter Try.func3, Try.ntmps3
  go_upto_region 1 with fail
  go_quiet (fail)
  go_wp2_with fail
  refine (awake_any _).mono ?_
  rintro e w1 ⟨rfl, hb1⟩
  go_wp2
  go_ret
  exact ⟨rfl, early_below hb1⟩

set_option maxRecDepth 100000 in
set_option maxHeartbeats 1000000 in
theorem stars_e4 (a b p m q : ByteArray) (w : World) (h1 : ¬ (30 : Int) < a.size) (h2 : ¬ (30 : Int) < b.size) (h3 : ¬ (60 : Int) < p.size) (h4 : (60 : Int) < m.size) :
    Calls Try.prog 3 #[.agg #[.string a, .string b], .agg #[.string p, .string m, .string q]] w fun e w' => e = .returned (.bool true) ∧ Below w.heap.size w w' := by
  go_enter Try.func3, Try.ntmps3
  go_upto_region 1 with fail
  go_quiet (fail)
  go_wp2_with fail
  refine (awake_any _).mono ?_
  rintro e w1 ⟨rfl, hb1⟩
  go_wp2
  go_ret
  exact ⟨rfl, early_below hb1⟩

set_option maxRecDepth 100000 in
set_option maxHeartbeats 1000000 in
theorem stars_e5 (a b p m q : ByteArray) (w : World) (h1 : ¬ (30 : Int) < a.size) (h2 : ¬ (30 : Int) < b.size) (h3 : ¬ (60 : Int) < p.size) (h4 : ¬ (60 : Int) < m.size) (h5 : (60 : Int) < q.size) :
    Calls Try.prog 3 #[.agg #[.string a, .string b], .agg #[.string p, .string m, .string q]] w fun e w' => e = .returned (.bool true) ∧ Below w.heap.size w w' := by
  go_enter Try.func3, Try.ntmps3
  go_upto_region 1 with fail
  go_quiet (fail)
  go_wp2_with fail
  refine (awake_any _).mono ?_
  rintro e w1 ⟨rfl, hb1⟩
  go_wp2
  go_ret
  exact ⟨rfl, early_below hb1⟩

set_option maxRecDepth 100000 in
set_option maxHeartbeats 1000000 in
theorem stars_e6 (a b p m q : ByteArray) (w : World) (h1 : ¬ (30 : Int) < a.size) (h2 : ¬ (30 : Int) < b.size) (h3 : ¬ (60 : Int) < p.size) (h4 : ¬ (60 : Int) < m.size) (h5 : ¬ (60 : Int) < q.size) (ha : a.toList.isEmpty = false) (hp : 0 < a.size) (hl : (a[a.size - 1].toNat : Int) = 42) :
    Calls Try.prog 3 #[.agg #[.string a, .string b], .agg #[.string p, .string m, .string q]] w fun e w' => e = .returned (.bool true) ∧ Below w.heap.size w w' := by
  have hp1 : (1 : Int) ≤ a.size := by omega
  have e1 : ((a.size : Int) - 1).toNat = a.size - 1 := by omega
  go_enter Try.func3, Try.ntmps3
  go_upto_region 1 with fail
  go_quiet (fail)
  go_wp2_with fail
  refine (awake_any _).mono ?_
  rintro e w1 ⟨rfl, hb1⟩
  go_wp2
  go_ret
  exact ⟨rfl, early_below hb1⟩

set_option maxRecDepth 100000 in
set_option maxHeartbeats 1000000 in
theorem stars_e7a (a b p m q : ByteArray) (w : World) (h1 : ¬ (30 : Int) < a.size) (h2 : ¬ (30 : Int) < b.size) (h3 : ¬ (60 : Int) < p.size) (h4 : ¬ (60 : Int) < m.size) (h5 : ¬ (60 : Int) < q.size) (ha : a.toList.isEmpty = true) (hbe : b.toList.isEmpty = false) (hp : 0 < b.size) (hl : (b[0].toNat : Int) = 42) :
    Calls Try.prog 3 #[.agg #[.string a, .string b], .agg #[.string p, .string m, .string q]] w fun e w' => e = .returned (.bool true) ∧ Below w.heap.size w w' := by
  go_enter Try.func3, Try.ntmps3
  go_upto_region 1 with fail
  go_quiet (fail)
  go_wp2_with fail
  refine (awake_any _).mono ?_
  rintro e w1 ⟨rfl, hb1⟩
  go_wp2
  go_ret
  exact ⟨rfl, early_below hb1⟩

set_option maxRecDepth 100000 in
set_option maxHeartbeats 1000000 in
theorem stars_e7b (a b p m q : ByteArray) (w : World) (h1 : ¬ (30 : Int) < a.size) (h2 : ¬ (30 : Int) < b.size) (h3 : ¬ (60 : Int) < p.size) (h4 : ¬ (60 : Int) < m.size) (h5 : ¬ (60 : Int) < q.size) (ha : a.toList.isEmpty = false) (hpa : 0 < a.size) (hla : ((a[a.size - 1].toNat : Int) == 42) = false) (hbe : b.toList.isEmpty = false) (hp : 0 < b.size) (hl : (b[0].toNat : Int) = 42) :
    Calls Try.prog 3 #[.agg #[.string a, .string b], .agg #[.string p, .string m, .string q]] w fun e w' => e = .returned (.bool true) ∧ Below w.heap.size w w' := by
  have hp1 : (1 : Int) ≤ a.size := by omega
  have e1 : ((a.size : Int) - 1).toNat = a.size - 1 := by omega
  go_enter Try.func3, Try.ntmps3
  go_upto_region 1 with fail
  go_quiet (fail)
  go_wp2_with fail
  refine (awake_any _).mono ?_
  rintro e w1 ⟨rfl, hb1⟩
  go_wp2
  go_ret
  exact ⟨rfl, early_below hb1⟩

end Go.Proofs.Ytmdlefagkfkenab
