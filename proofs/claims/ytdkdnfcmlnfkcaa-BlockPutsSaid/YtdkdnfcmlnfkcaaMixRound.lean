/-
  mix: RotateLeft64, round, back.
-/
import Derived.Test.YtdkdnfcmlnfkcaaAutoBytes
import Derived.Test.YtdkdnfcmlnfkcaaAutoMixMath
import Derived.Laws.BitsAllLaws
namespace Go.Proofs.Ytdkdnfcmlnfkcaa
open Go.RowKit
set_option maxRecDepth 100000

theorem rot_bits (x n : Nat) (hx : x < 18446744073709551616) (hn : n ≤ 64) : bits .or .u64 ((x : Int) * 2 ^ n % 18446744073709551616) ((x : Int) / 2 ^ (64 - n)) = ((rotL x n : Nat) : Int) := by
  have e1 : ((x : Int) * 2 ^ n % 18446744073709551616) = ((x * 2 ^ n % 18446744073709551616 : Nat) : Int) := by simp
  have e2 : ((x : Int) / 2 ^ (64 - n)) = ((x / 2 ^ (64 - n) : Nat) : Int) := by simp
  rw [e1, e2, u64_or_nat _ _ (Nat.mod_lt _ (by decide)) (Nat.lt_of_le_of_lt (Nat.div_le_self _ _) hx), rotL_or x n hn hx]
set_option maxHeartbeats 1000000 in
theorem rot29 (x : Nat) (w : World) (hx : x < 18446744073709551616) : Calls Try.prog 142 #[.int .u64 x, .int .i64 29] w fun e w' => e = .returned (.int .u64 (rotL x 29 : Nat)) ∧ w' = w := by
  have h : bits .or .u64 (IntKind.u64.wrap ((x : Int) * 536870912)) ((x : Int) / 34359738368) = ((rotL x 29 : Nat) : Int) := by
    rw [IntKind.wrap_u64]
    exact rot_bits x 29 hx (by decide)
  have hb : bits .and .u64 29 63 = 29 := by kernel_rfl
  go_enter Try.func142, Try.ntmps142
  go_wp2_with fail
  refine bodyPost_ret (results_tmp rfl _ _ _) rfl ⟨rfl, rfl⟩
set_option maxHeartbeats 1000000 in
theorem rot41 (x : Nat) (w : World) (hx : x < 18446744073709551616) : Calls Try.prog 142 #[.int .u64 x, .int .i64 41] w fun e w' => e = .returned (.int .u64 (rotL x 41 : Nat)) ∧ w' = w := by
  have h : bits .or .u64 (IntKind.u64.wrap ((x : Int) * 2199023255552)) ((x : Int) / 8388608) = ((rotL x 41 : Nat) : Int) := by
    rw [IntKind.wrap_u64]
    exact rot_bits x 41 hx (by decide)
  have hb : bits .and .u64 41 63 = 41 := by kernel_rfl
  go_enter Try.func142, Try.ntmps142
  go_wp2_with fail
  refine bodyPost_ret (results_tmp rfl _ _ _) rfl ⟨rfl, rfl⟩
set_option maxHeartbeats 1000000 in
theorem rotm41 (x : Nat) (w : World) (hx : x < 18446744073709551616) : Calls Try.prog 142 #[.int .u64 x, .int .i64 (-41)] w fun e w' => e = .returned (.int .u64 (rotL x 23 : Nat)) ∧ w' = w := by
  have h : bits .or .u64 (IntKind.u64.wrap ((x : Int) * 8388608)) ((x : Int) / 2199023255552) = ((rotL x 23 : Nat) : Int) := by
    rw [IntKind.wrap_u64]
    exact rot_bits x 23 hx (by decide)
  have hb : bits .and .u64 (IntKind.u64.wrap (-41)) 63 = 23 := by kernel_rfl
  go_enter Try.func142, Try.ntmps142
  go_wp2_with fail
  refine bodyPost_ret (results_tmp rfl _ _ _) rfl ⟨rfl, rfl⟩
set_option maxHeartbeats 1000000 in
theorem rotm29 (x : Nat) (w : World) (hx : x < 18446744073709551616) : Calls Try.prog 142 #[.int .u64 x, .int .i64 (-29)] w fun e w' => e = .returned (.int .u64 (rotL x 35 : Nat)) ∧ w' = w := by
  have h : bits .or .u64 (IntKind.u64.wrap ((x : Int) * 34359738368)) ((x : Int) / 536870912) = ((rotL x 35 : Nat) : Int) := by
    rw [IntKind.wrap_u64]
    exact rot_bits x 35 hx (by decide)
  have hb : bits .and .u64 (IntKind.u64.wrap (-29)) 63 = 35 := by kernel_rfl
  go_enter Try.func142, Try.ntmps142
  go_wp2_with fail
  refine bodyPost_ret (results_tmp rfl _ _ _) rfl ⟨rfl, rfl⟩

/-- A state, as a value. -/
def stV (p : Nat × Nat) : Value := .agg #[.int .u64 (p.1 : Nat), .int .u64 (p.2 : Nat)]
theorem wrap_mod (n : Nat) : IntKind.u64.wrap (n : Int) = ((n % 18446744073709551616 : Nat) : Int) := by
  rw [IntKind.wrap_u64]; omega
theorem two_rows (w : World) (X Y : Array Value) (t u : TypeId) : ((w.alloc (.cells X t)).alloc (.cells Y u)).heap[w.heap.size]? = some (.cells X t (0, 0)) ∧ ((w.alloc (.cells X t)).alloc (.cells Y u)).heap[w.heap.size + 1]? = some (.cells Y u (0, 0)) ∧ Below w.heap.size w ((w.alloc (.cells X t)).alloc (.cells Y u)) := by
  refine ⟨?_, ?_, ((Below.refl _ w).alloc (Nat.le_refl _) _).alloc (by simp) _⟩
  · rw [Below.heap_alloc _ _ _ (by simp)]
    exact World.alloc_heap_new _ _
  · have h := World.alloc_heap_new (w.alloc (.cells X t)) (Obj.cells Y u)
    simp only [World.size_alloc] at h
    exact h
/-- The world behind a result's store, and what it reads. -/
theorem set_two (w w3 : World) (n : Nat) (a b x y : Value) (t : TypeId) (h : w3.heap[n]? = some (.cells #[a, b] t (0, 0))) (hn : w.heap.size ≤ n) (hB : Below w.heap.size w w3) :
    ((w3.setCell ⟨n, 0, none⟩ x).setCell ⟨n, 1, none⟩ y).cell? ⟨n, 0, none⟩ = some x ∧ ((w3.setCell ⟨n, 0, none⟩ x).setCell ⟨n, 1, none⟩ y).cell? ⟨n, 1, none⟩ = some y ∧ Below w.heap.size w ((w3.setCell ⟨n, 0, none⟩ x).setCell ⟨n, 1, none⟩ y) := by
  have hfin := heap_setCell_same _ n 1 _ _ y (heap_setCell_same w3 n 0 _ _ x h)
  exact ⟨cell_of_row _ _ _ _ _ _ hfin, cell_of_row _ _ _ _ _ _ hfin, (hB.setCell (p := ⟨n, 0, none⟩) hn _).setCell (p := ⟨n, 1, none⟩) hn _⟩

set_option maxHeartbeats 2000000 in
theorem round_any (p : Nat × Nat) (v : Nat) (w : World) (hp : Two p) (hv : v < 18446744073709551616) :
    Calls Try.prog 127 #[stV p, .int .u64 v] w fun e w' => e = .returned (stV (roundN p v)) ∧ Below w.heap.size w w' := by
  obtain ⟨hi, lo⟩ := p
  obtain ⟨h1, h2⟩ := hp
  have HR := hide (show roundN (hi, lo) v = (hiR hi lo v, loR hi lo v) from rfl)
  rw [HR.out]
  simp only at h1 h2
  unfold loR
  have hx := u64_xor_nat hi v h1 hv
  have hxl := xor_lt hi v h1 hv
  have hm : IntKind.u64.wrap (((hi ^^^ v : Nat) : Int) * 11400714819323198485) = (((hi ^^^ v) * 0x9e3779b97f4a7c15 % 18446744073709551616 : Nat) : Int) := wrap_mod ((hi ^^^ v) * 0x9e3779b97f4a7c15)
  have hm1 : (hi ^^^ v) * 0x9e3779b97f4a7c15 % 18446744073709551616 < 18446744073709551616 := Nat.mod_lt _ (by decide)
  have hh : IntKind.u64.wrap (((rotL ((hi ^^^ v) * 0x9e3779b97f4a7c15 % 18446744073709551616) 29 : Nat) : Int) + (lo : Int)) = ((hiR hi lo v : Nat) : Int) := wrap_mod (rotL ((hi ^^^ v) * 0x9e3779b97f4a7c15 % 18446744073709551616) 29 + lo)
  have hhl : hiR hi lo v < 18446744073709551616 := Nat.mod_lt _ (by decide)
  have ha : IntKind.u64.wrap ((lo : Int) + (v : Int)) = (((lo + v) % 18446744073709551616 : Nat) : Int) := wrap_mod (lo + v)
  have hb : IntKind.u64.wrap ((((lo + v) % 18446744073709551616 : Nat) : Int) * 14029467366897019727) = (((lo + v) % 18446744073709551616 * 0xc2b2ae3d27d4eb4f % 18446744073709551616 : Nat) : Int) := wrap_mod ((lo + v) % 18446744073709551616 * 0xc2b2ae3d27d4eb4f)
  have hbl : (lo + v) % 18446744073709551616 * 0xc2b2ae3d27d4eb4f % 18446744073709551616 < 18446744073709551616 := Nat.mod_lt _ (by decide)
  have hy := u64_xor_nat (rotL ((lo + v) % 18446744073709551616 * 0xc2b2ae3d27d4eb4f % 18446744073709551616) 41) (hiR hi lo v) (rotL_lt _ _ (by decide) hbl) hhl
  generalize hiR hi lo v = H at hh hhl hy ⊢
  generalize (lo + v) % 18446744073709551616 * 0xc2b2ae3d27d4eb4f % 18446744073709551616 = m2 at hb hbl hy ⊢
  generalize (lo + v) % 18446744073709551616 = a2 at ha hb
  generalize (hi ^^^ v) * 0x9e3779b97f4a7c15 % 18446744073709551616 = m1 at hm hm1 hh
  generalize hi ^^^ v = x1 at hx hxl hm
  generalize rotL m2 41 ^^^ H = L at hy ⊢
  obtain ⟨r0, r1, hB⟩ := two_rows w #[.int .u64 (hi : Nat), .int .u64 (lo : Nat)] #[.int .u64 0, .int .u64 0] 152 152
  unfold stV
  go_enter Try.func127, Try.ntmps127
  go_wp2_with fail
  generalize ((w.alloc (.cells #[.int .u64 (hi : Nat), .int .u64 (lo : Nat)] 152)).alloc (.cells #[.int .u64 0, .int .u64 0] 152)) = w2 at r0 r1 hB ⊢
  have c0 : w2.cell? ⟨w.heap.size, 0, none⟩ = some (.int .u64 (hi : Nat)) := cell_of_row _ _ _ _ _ _ r0
  have c1 : w2.cell? ⟨w.heap.size, 1, none⟩ = some (.int .u64 (lo : Nat)) := cell_of_row _ _ _ _ _ _ r0
  clear h1 h2 hv hxl hhl r0
  go_quiet ((go_at_call 142; exact Calls.quiet_of_same (rot29 _ _ hm1)))
  have r2 : (w2.drewN nq).heap[w.heap.size + 1]? = some (.cells #[.int .u64 0, .int .u64 0] 152 (0, 0)) := r1
  have e0 : (w2.drewN nq).cell? ⟨w.heap.size, 0, none⟩ = some (.int .u64 (hi : Nat)) := c0
  have e1 : (w2.drewN nq).cell? ⟨w.heap.size, 1, none⟩ = some (.int .u64 (lo : Nat)) := c1
  have hB2 := below_drewN hB nq
  clear c0 c1 r1 hB
  generalize w2.drewN nq = w3 at r2 hB2 e0 e1 ⊢
  have d0 : w3.cell? ⟨w.heap.size + 1, 0, none⟩ = some (.int .u64 0) := cell_of_row _ _ _ _ _ _ r2
  have d1 : w3.cell? ⟨w.heap.size + 1, 1, none⟩ = some (.int .u64 0) := cell_of_row _ _ _ _ _ _ r2
  have z0 : w3.frozen? ⟨w.heap.size + 1, 0, none⟩ = false := frozen_of_row _ _ _ _ _ r2
  have z1 : w3.frozen? ⟨w.heap.size + 1, 1, none⟩ = false := frozen_of_row _ _ _ _ _ r2
  have HX := hide (set_two w w3 (w.heap.size + 1) _ _ (.int .u64 (H : Nat)) (.int .u64 (L : Nat)) _ r2 (by omega) hB2)
  clear r2 hB2
  go_wp2_with fail
  refine (rot41 _ _ hbl).mono ?_
  rintro e w4 ⟨rfl, rfl⟩
  go_wp2_with fail
  obtain ⟨y0, y1, hBf⟩ := HX.out
  refine bodyPost_ret (v := .agg #[.int .u64 (H : Nat), .int .u64 (L : Nat)]) (by simp [results, Try.results127, go_sem, y0, y1]) rfl ⟨rfl, hBf⟩

end Go.Proofs.Ytdkdnfcmlnfkcaa
