/-
  roll.Grow.
-/
import Derived.Test.YtdkdnfcmlnfkcaaBytes
import Derived.Test.YtdkdnfcmlnfkcaaRollMath
namespace Go.Proofs.Ytdkdnfcmlnfkcaa
open Go.RowKit
set_option maxRecDepth 100000

theorem grow1_any (a b x g : Nat) (w : World) (ha : a < 65536) (hb : b < 65536) (hx : x < 256) (hc : w.cell? ⟨g, 0, none⟩ = some (.int .u8 x)) :
    Calls Try.prog 124 #[.int .u32 a, .int .u32 b, .pointer (some ⟨g, 0, none⟩)] w fun e w' => e = .returned (.tuple #[.int .u32 ((a + x : Nat) : Int), .int .u32 ((b + (a + x) : Nat) : Int)]) ∧ w' = w := by
  have h1 : (a : Int) < 65536 := by omega
  have h2 : (b : Int) < 65536 := by omega
  have h3 : (x : Int) < 256 := by omega
  go_enter Try.func124, Try.ntmps124
  go_wp2_with fail
  exact bodyPost_ret (results_tmp2 rfl _ _ _) rfl ⟨by simp, rfl⟩

set_option maxHeartbeats 1000000 in
theorem onGrow_any (s p q : Nat) (c : Array Value) (w : World) (hs : s < 4294967296) (hp : p < 4294967296) (hq : q < 4294967296)
    (h : Calls Try.prog 124 (#[.int .u32 ((s : Int) % 65536), .int .u32 ((s : Int) / 65536)] ++ c) w fun e w' => e = .returned (.tuple #[.int .u32 p, .int .u32 q]) ∧ Below w.heap.size w w') :
    Calls Try.prog 123 #[.int .u32 s, .func (.func 124) #[] c] w fun e w' => e = .returned (.int .u32 (joinN p q : Nat)) ∧ Below w.heap.size w w' := by
  have hsi : (s : Int) < 4294967296 := by omega
  have hpi : (p : Int) < 4294967296 := by omega
  have hqi : (q : Int) < 4294967296 := by omega
  have hj : ((joinN p q : Nat) : Int) = (p : Int) % 65536 + (q : Int) % 65536 * 65536 := by unfold joinN; omega
  obtain ⟨j, hj'⟩ : ∃ j, j = joinN p q := ⟨_, rfl⟩
  rw [← hj'] at hj ⊢
  clear hj'
  have HJ := hide hj
  have HP := hide h
  clear h hj
  go_enter Try.func123, Try.ntmps123
  go_wp2_with fail
  refine HP.out.mono ?_
  rintro e w2 ⟨rfl, hB⟩
  go_wp2_with fail
  exact bodyPost_ret (results_tmp rfl _ _ _) rfl ⟨by rw [HJ.out]; rfl, hB⟩

theorem box_row (w : World) (v : Value) (t : TypeId) : (w.alloc (.cells #[v] t)).cell? ⟨w.heap.size, 0, none⟩ = some v := cell_of_row _ _ _ _ _ _ (World.alloc_heap_new w (Obj.cells #[v] t))
theorem box_below (w : World) (v : Value) (t : TypeId) : Below w.heap.size w (w.alloc (.cells #[v] t)) := (Below.refl _ w).alloc (Nat.le_refl _) _

set_option maxHeartbeats 1000000 in
theorem rgrow_any (l : List UInt8) (x : UInt8) (w : World) :
    Calls Try.prog 104 #[.int .u32 (weakN l : Nat), .int .u8 x.toNat] w fun e w' => e = .returned (.int .u32 (weakN (l ++ [x]) : Nat)) ∧ Below w.heap.size w w' := by
  have hs := weakN_lt l
  have hx := x.toNat_lt
  have h1 : weakN l % 65536 < 65536 := Nat.mod_lt _ (by decide)
  have h2 : weakN l / 65536 < 65536 := by omega
  have HW := hide (weak_grow l x)
  have hC := grow1_any (weakN l % 65536) (weakN l / 65536) x.toNat w.heap.size (w.alloc (.cells #[.int .u8 x.toNat] 5)) h1 h2 hx (box_row _ _ _)
  have HO := hide (onGrow_any (weakN l) (weakN l % 65536 + x.toNat) (weakN l / 65536 + (weakN l % 65536 + x.toNat)) #[.pointer (some ⟨w.heap.size, 0, none⟩)] (w.alloc (.cells #[.int .u8 x.toNat] 5)) hs (by omega) (by omega)
    (hC.mono fun e w' h => ⟨h.1, h.2 ▸ Below.refl _ _⟩))
  rw [← HW.out] at HO
  clear hC HW h1 h2
  obtain ⟨j, hj⟩ : ∃ j, j = weakN (l ++ [x]) := ⟨_, rfl⟩
  rw [← hj] at HO ⊢
  clear hj
  generalize weakN l = s at HO hs ⊢
  generalize x.toNat = xn at HO hx ⊢
  go_enter Try.func104, Try.ntmps104
  go_wp2_with fail
  refine HO.out.mono ?_
  rintro e w2 ⟨rfl, hB⟩
  go_wp2_with fail
  exact bodyPost_ret (results_tmp rfl _ _ _) rfl ⟨rfl, (box_below w _ _).trans (hB.mono (by simp))⟩
end Go.Proofs.Ytdkdnfcmlnfkcaa
