/-
  roll.on with each of its closures; Grow, Both, Roll.
-/
import Derived.Test.YtklficpogeidlaaBytes
import Derived.Test.YtklficpogeidlaaRollMath
namespace Go.Proofs.Ytklficpogeidlaa
open Go.RowKit
set_option maxRecDepth 100000

theorem count_any (n : Nat) (w : World) (hn : n < 9223372036854775808) :
    Calls Try.prog 48 #[.int .i64 n] w fun e w' => e = .returned (.int .u32 ((n % 4294967296 : Nat) : Int)) ∧ w' = w := by
  have hm : (if (n : Int) < 0 then (0 : Int) else (n : Int)) = (n : Int) := by split <;> omega
  have hw : IntKind.u32.wrap (n : Int) = ((n % 4294967296 : Nat) : Int) := by rw [IntKind.wrap_u32]; omega
  generalize ((n % 4294967296 : Nat) : Int) = v at hw ⊢
  go_enter Try.func48, Try.ntmps48
  go_wp2_with fail
  exact bodyPost_ret (results_tmp rfl _ _ _) rfl ⟨by first | rfl | (rw [hm, hw]) | (rw [hw]), rfl⟩

theorem grow1_any (a b x g : Nat) (w : World) (ha : a < 65536) (hb : b < 65536) (hx : x < 256) (hc : w.cell? ⟨g, 0, none⟩ = some (.int .u8 x)) :
    Calls Try.prog 46 #[.int .u32 a, .int .u32 b, .pointer (some ⟨g, 0, none⟩)] w fun e w' => e = .returned (.tuple #[.int .u32 ((a + x : Nat) : Int), .int .u32 ((b + (a + x) : Nat) : Int)]) ∧ w' = w := by
  have h1 : (a : Int) < 65536 := by omega
  have h2 : (b : Int) < 65536 := by omega
  have h3 : (x : Int) < 256 := by omega
  go_enter Try.func46, Try.ntmps46
  go_wp2_with fail
  exact bodyPost_ret (results_tmp2 rfl _ _ _) rfl ⟨by simp, rfl⟩

set_option maxHeartbeats 1000000 in
theorem onGrow_any (s p q : Nat) (c : Array Value) (w : World) (hs : s < 4294967296) (hp : p < 4294967296) (hq : q < 4294967296)
    (h : Calls Try.prog 46 (#[.int .u32 ((s : Int) % 65536), .int .u32 ((s : Int) / 65536)] ++ c) w fun e w' => e = .returned (.tuple #[.int .u32 p, .int .u32 q]) ∧ Below w.heap.size w w') :
    Calls Try.prog 45 #[.int .u32 s, .func (.func 46) #[] c] w fun e w' => e = .returned (.int .u32 (joinN p q : Nat)) ∧ Below w.heap.size w w' := by
  have hsi : (s : Int) < 4294967296 := by omega
  have hpi : (p : Int) < 4294967296 := by omega
  have hqi : (q : Int) < 4294967296 := by omega
  have hj : ((joinN p q : Nat) : Int) = (p : Int) % 65536 + (q : Int) % 65536 * 65536 := by unfold joinN; omega
  obtain ⟨j, hj'⟩ : ∃ j, j = joinN p q := ⟨_, rfl⟩
  rw [← hj'] at hj ⊢
  clear hj'
  have HJ := hide hj
  have HP := hide h
  clear h hj
  go_enter Try.func45, Try.ntmps45
  go_wp2_with fail
  refine HP.out.mono ?_
  rintro e w2 ⟨rfl, hB⟩
  go_wp2_with fail
  exact bodyPost_ret (results_tmp rfl _ _ _) rfl ⟨by rw [HJ.out]; rfl, hB⟩

set_option maxHeartbeats 1000000 in
theorem onBoth_any (s p q : Nat) (c : Array Value) (w : World) (hs : s < 4294967296) (hp : p < 4294967296) (hq : q < 4294967296)
    (h : Calls Try.prog 47 (#[.int .u32 ((s : Int) % 65536), .int .u32 ((s : Int) / 65536)] ++ c) w fun e w' => e = .returned (.tuple #[.int .u32 p, .int .u32 q]) ∧ Below w.heap.size w w') :
    Calls Try.prog 45 #[.int .u32 s, .func (.func 47) #[] c] w fun e w' => e = .returned (.int .u32 (joinN p q : Nat)) ∧ Below w.heap.size w w' := by
  have hsi : (s : Int) < 4294967296 := by omega
  have hpi : (p : Int) < 4294967296 := by omega
  have hqi : (q : Int) < 4294967296 := by omega
  have hj : ((joinN p q : Nat) : Int) = (p : Int) % 65536 + (q : Int) % 65536 * 65536 := by unfold joinN; omega
  obtain ⟨j, hj'⟩ : ∃ j, j = joinN p q := ⟨_, rfl⟩
  rw [← hj'] at hj ⊢
  clear hj'
  have HJ := hide hj
  have HP := hide h
  clear h hj
  go_enter Try.func45, Try.ntmps45
  go_wp2_with fail
  refine HP.out.mono ?_
  rintro e w2 ⟨rfl, hB⟩
  go_wp2_with fail
  exact bodyPost_ret (results_tmp rfl _ _ _) rfl ⟨by rw [HJ.out]; rfl, hB⟩

set_option maxHeartbeats 1000000 in
theorem onRoll_any (s p q : Nat) (c : Array Value) (w : World) (hs : s < 4294967296) (hp : p < 4294967296) (hq : q < 4294967296)
    (h : Calls Try.prog 49 (#[.int .u32 ((s : Int) % 65536), .int .u32 ((s : Int) / 65536)] ++ c) w fun e w' => e = .returned (.tuple #[.int .u32 p, .int .u32 q]) ∧ Below w.heap.size w w') :
    Calls Try.prog 45 #[.int .u32 s, .func (.func 49) #[] c] w fun e w' => e = .returned (.int .u32 (joinN p q : Nat)) ∧ Below w.heap.size w w' := by
  have hsi : (s : Int) < 4294967296 := by omega
  have hpi : (p : Int) < 4294967296 := by omega
  have hqi : (q : Int) < 4294967296 := by omega
  have hj : ((joinN p q : Nat) : Int) = (p : Int) % 65536 + (q : Int) % 65536 * 65536 := by unfold joinN; omega
  obtain ⟨j, hj'⟩ : ∃ j, j = joinN p q := ⟨_, rfl⟩
  rw [← hj'] at hj ⊢
  clear hj'
  have HJ := hide hj
  have HP := hide h
  clear h hj
  go_enter Try.func45, Try.ntmps45
  go_wp2_with fail
  refine HP.out.mono ?_
  rintro e w2 ⟨rfl, hB⟩
  go_wp2_with fail
  exact bodyPost_ret (results_tmp rfl _ _ _) rfl ⟨by rw [HJ.out]; rfl, hB⟩

theorem box_row (w : World) (v : Value) (t : TypeId) : (w.alloc (.cells #[v] t)).cell? ⟨w.heap.size, 0, none⟩ = some v := cell_of_row _ _ _ _ _ _ (World.alloc_heap_new w (Obj.cells #[v] t))
theorem box_below (w : World) (v : Value) (t : TypeId) : Below w.heap.size w (w.alloc (.cells #[v] t)) := (Below.refl _ w).alloc (Nat.le_refl _) _

set_option maxHeartbeats 1000000 in
theorem grow_any (l : List UInt8) (x : UInt8) (w : World) :
    Calls Try.prog 26 #[.int .u32 (weakN l : Nat), .int .u8 x.toNat] w fun e w' => e = .returned (.int .u32 (weakN (l ++ [x]) : Nat)) ∧ Below w.heap.size w w' := by
  have hs := weakN_lt l
  have hx := x.toNat_lt
  have h1 : weakN l % 65536 < 65536 := Nat.mod_lt _ (by decide)
  have h2 : weakN l / 65536 < 65536 := by omega
  have HW := hide (weak_grow l x)
  have hC := grow1_any (weakN l % 65536) (weakN l / 65536) x.toNat w.heap.size (w.alloc (.cells #[.int .u8 x.toNat] 5)) h1 h2 hx (box_row _ _ _)
  have HO := hide (onGrow_any (weakN l) (weakN l % 65536 + x.toNat) (weakN l / 65536 + (weakN l % 65536 + x.toNat)) #[.pointer (some ⟨w.heap.size, 0, none⟩)] (w.alloc (.cells #[.int .u8 x.toNat] 5)) hs (by omega) (by omega)
    (hC.mono fun e w' h => ⟨h.1, h.2 ▸ Below.refl _ _⟩))
  rw [← HW.out] at HO
  clear hC HW h1 h2
  obtain ⟨j, hj⟩ : ∃ j, j = weakN (l ++ [x]) := ⟨_, rfl⟩
  rw [← hj] at HO ⊢
  clear hj
  generalize weakN l = s at HO hs ⊢
  generalize x.toNat = xn at HO hx ⊢
  go_enter Try.func26, Try.ntmps26
  go_wp2_with fail
  refine HO.out.mono ?_
  rintro e w2 ⟨rfl, hB⟩
  go_wp2_with fail
  exact bodyPost_ret (results_tmp rfl _ _ _) rfl ⟨rfl, (box_below w _ _).trans (hB.mono (by simp))⟩

theorem two_box (w : World) (u v : Value) (t t2 : TypeId) : ((w.alloc (.cells #[u] t)).alloc (.cells #[v] t2)).cell? ⟨w.heap.size, 0, none⟩ = some u ∧ ((w.alloc (.cells #[u] t)).alloc (.cells #[v] t2)).cell? ⟨w.heap.size + 1, 0, none⟩ = some v ∧ Below w.heap.size w ((w.alloc (.cells #[u] t)).alloc (.cells #[v] t2)) := by
  refine ⟨cell_of_row _ _ _ _ _ _ ((Below.heap_alloc _ _ _ (by simp)).trans (World.alloc_heap_new w (Obj.cells #[u] t))), ?_, ((Below.refl _ w).alloc (Nat.le_refl _) _).alloc (by simp) _⟩
  have h := World.alloc_heap_new (w.alloc (.cells #[u] t)) (Obj.cells #[v] t2)
  simp only [World.size_alloc] at h
  exact cell_of_row _ _ _ _ _ _ h

set_option maxHeartbeats 1000000 in
theorem both1_any (a b r n c g k : Nat) (w : World) (ha : a < 65536) (hb : b < 65536) (hr : r < 4294967296) (hn : n ≤ 60000) (hcc : c = n * a)
    (h1 : w.cell? ⟨g, 0, none⟩ = some (.int .u32 r)) (h2 : w.cell? ⟨k, 0, none⟩ = some (.int .i64 n)) :
    Calls Try.prog 47 #[.int .u32 a, .int .u32 b, .pointer (some ⟨g, 0, none⟩), .pointer (some ⟨k, 0, none⟩)] w fun e w' => e = .returned (.tuple #[.int .u32 ((a + r % 65536 : Nat) : Int), .int .u32 ((b + c + r / 65536 : Nat) : Int)]) ∧ Below w.heap.size w w' := by
  have i4 : n % 4294967296 = n := by omega
  have hcl : c ≤ 60000 * 65535 := by rw [hcc]; exact Nat.mul_le_mul hn (by omega)
  have hm : ((n : Int) * (a : Int)) = (c : Int) := by rw [hcc]; simp
  have i1 : (a : Int) < 65536 := by omega
  have i2 : (b : Int) < 65536 := by omega
  have i3 : (r : Int) < 4294967296 := by omega
  have i5 : (c : Int) ≤ 3932100000 := by omega
  have E2 : IntKind.u32.wrap ((n : Int) * (a : Int)) = (c : Int) := by rw [hm, IntKind.wrap_u32]; omega
  have HC := fun W => count_any n W (by omega)
  rw [i4] at HC
  clear hcc hcl i4 hm
  go_enter Try.func47, Try.ntmps47
  go_wp2_with fail
  go_quiet ((go_at_call 48; exact Calls.quiet_of_same (HC _)))
  go_wp2_with fail
  exact bodyPost_ret (results_tmp2 rfl _ _ _) rfl ⟨by rfl, (Below.refl _ w).trans ⟨rfl, rfl, rfl, Nat.le_refl _, fun _ _ => rfl⟩⟩

set_option maxHeartbeats 1000000 in
theorem roll1_any (a b x n c g k : Nat) (w : World) (ha : a < 65536) (hb : b < 65536) (hx : x < 256) (hn : n ≤ 60000) (hcc : c = n * x)
    (h1 : w.cell? ⟨g, 0, none⟩ = some (.int .u8 x)) (h2 : w.cell? ⟨k, 0, none⟩ = some (.int .i64 n)) :
    Calls Try.prog 49 #[.int .u32 a, .int .u32 b, .pointer (some ⟨g, 0, none⟩), .pointer (some ⟨k, 0, none⟩)] w fun e w' => e = .returned (.tuple #[.int .u32 (((a + 4294967296 - x) % 4294967296 : Nat) : Int), .int .u32 (((b + 4294967296 - c) % 4294967296 : Nat) : Int)]) ∧ Below w.heap.size w w' := by
  have i4 : n % 4294967296 = n := by omega
  have i3 : (x : Int) < 256 := by omega
  have hcl : c ≤ 60000 * 255 := by rw [hcc]; exact Nat.mul_le_mul hn (by omega)
  have hm : ((n : Int) * (x : Int)) = (c : Int) := by rw [hcc]; simp
  have E0 : IntKind.u32.wrap (x : Int) = (x : Int) := by rw [IntKind.wrap_u32]; omega
  have E1 : IntKind.u32.wrap ((a : Int) - (x : Int)) = (((a + 4294967296 - x) % 4294967296 : Nat) : Int) := by rw [IntKind.wrap_u32]; omega
  have E2 : IntKind.u32.wrap ((n : Int) * (x : Int)) = (c : Int) := by rw [hm, IntKind.wrap_u32]; omega
  have E3 : IntKind.u32.wrap ((b : Int) - (c : Int)) = (((b + 4294967296 - c) % 4294967296 : Nat) : Int) := by rw [IntKind.wrap_u32]; omega
  generalize (((a + 4294967296 - x) % 4294967296 : Nat) : Int) = p at E1 ⊢
  generalize (((b + 4294967296 - c) % 4294967296 : Nat) : Int) = q at E3 ⊢
  have HC := fun W => count_any n W (by omega)
  rw [i4] at HC
  clear hcc hcl i4 hm
  go_enter Try.func49, Try.ntmps49
  go_wp2_with fail
  go_quiet ((go_at_call 48; exact Calls.quiet_of_same (HC _)))
  go_wp2_with fail
  exact bodyPost_ret (results_tmp2 rfl _ _ _) rfl ⟨by rfl, (Below.refl _ w).trans ⟨rfl, rfl, rfl, Nat.le_refl _, fun _ _ => rfl⟩⟩

set_option maxHeartbeats 1000000 in
theorem both_any (l m : List UInt8) (w : World) (hm : m.length ≤ 60000) :
    Calls Try.prog 27 #[.int .u32 (weakN l : Nat), .int .u32 (weakN m : Nat), .int .i64 m.length] w fun e w' => e = .returned (.int .u32 (weakN (l ++ m) : Nat)) ∧ Below w.heap.size w w' := by
  have hs := weakN_lt l
  have hr := weakN_lt m
  have h1 : weakN l % 65536 < 65536 := Nat.mod_lt _ (by decide)
  have h2 : weakN l / 65536 < 65536 := by omega
  have HW := hide (weak_both l m)
  have hcl : m.length * (weakN l % 65536) ≤ 60000 * 65535 := Nat.mul_le_mul hm (by omega)
  obtain ⟨c0, c1, hB⟩ := two_box w (.int .u32 (weakN m : Nat)) (.int .i64 m.length) 54 3
  have hC := both1_any (weakN l % 65536) (weakN l / 65536) (weakN m) m.length _ w.heap.size (w.heap.size + 1) _ h1 h2 hr hm rfl c0 c1
  have HO := hide (onBoth_any (weakN l) (weakN l % 65536 + weakN m % 65536) (weakN l / 65536 + m.length * (weakN l % 65536) + weakN m / 65536) #[.pointer (some ⟨w.heap.size, 0, none⟩), .pointer (some ⟨w.heap.size + 1, 0, none⟩)] _ hs (by omega) (by omega) hC)
  rw [← HW.out] at HO
  have HB := hide hB
  clear hC HW h1 h2 hcl c0 c1 hB hr
  obtain ⟨j, hj⟩ : ∃ j, j = weakN (l ++ m) := ⟨_, rfl⟩
  rw [← hj] at HO ⊢
  clear hj
  generalize weakN l = s at HO hs ⊢
  generalize weakN m = r at HO HB ⊢
  go_enter Try.func27, Try.ntmps27
  go_wp2_with fail
  refine HO.out.mono ?_
  rintro e w2 ⟨rfl, hB⟩
  go_wp2_with fail
  exact bodyPost_ret (results_tmp rfl _ _ _) rfl ⟨rfl, HB.out.trans (hB.mono (by simp; omega))⟩

set_option maxHeartbeats 1000000 in
theorem roll_any (l : List UInt8) (x y : UInt8) (n : Nat) (w : World) (hl : l.length ≤ 50000) (hn : n = l.length + 1) :
    Calls Try.prog 28 #[.int .u32 (weakN (x :: l) : Nat), .int .i64 n, .int .u8 x.toNat, .int .u8 y.toNat] w fun e w' => e = .returned (.int .u32 (weakN (l ++ [y]) : Nat)) ∧ Below w.heap.size w w' := by
  have hs := weakN_lt (x :: l)
  have hx := x.toNat_lt
  have h1 : weakN (x :: l) % 65536 < 65536 := Nat.mod_lt _ (by decide)
  have h2 : weakN (x :: l) / 65536 < 65536 := by omega
  have hcl : n * x.toNat ≤ 60000 * 255 := Nat.mul_le_mul (by omega) (by omega)
  have HW := hide (weak_rest l x (n * x.toNat) (by rw [hn]) (by omega))
  obtain ⟨c0, c1, hB⟩ := two_box w (.int .i64 n) (.int .u8 x.toNat) 3 5
  have hC := roll1_any (weakN (x :: l) % 65536) (weakN (x :: l) / 65536) x.toNat n _ (w.heap.size + 1) w.heap.size _ h1 h2 hx (by omega) rfl c1 c0
  have HO := hide (onRoll_any (weakN (x :: l)) _ _ #[.pointer (some ⟨w.heap.size + 1, 0, none⟩), .pointer (some ⟨w.heap.size, 0, none⟩)] _ hs (Nat.mod_lt _ (by decide)) (Nat.mod_lt _ (by decide)) hC)
  rw [HW.out] at HO
  have HB := hide hB
  have HG := hide (fun W => grow_any l y W)
  clear hC HW h1 h2 hcl c0 c1 hB hn
  obtain ⟨j, hj⟩ : ∃ j, j = weakN (l ++ [y]) := ⟨_, rfl⟩
  rw [← hj] at HG ⊢
  clear hj
  generalize weakN (x :: l) = s at HO hs ⊢
  generalize weakN l = r at HO HG ⊢
  generalize y.toNat = yn at HG ⊢
  generalize x.toNat = xn at HO HB ⊢
  go_enter Try.func28, Try.ntmps28
  go_wp2_with fail
  refine HO.out.mono ?_
  rintro e w2 ⟨rfl, hB⟩
  have hB2 := HB.out.trans (hB.mono (by simp; omega))
  clear hB
  go_wp2_with fail
  refine (HG.out _).mono ?_
  rintro e w3 ⟨rfl, hB3⟩
  go_wp2_with fail
  exact bodyPost_ret (results_tmp rfl _ _ _) rfl ⟨rfl, hB2.trans (hB3.mono hB2.size)⟩
end Go.Proofs.Ytklficpogeidlaa
