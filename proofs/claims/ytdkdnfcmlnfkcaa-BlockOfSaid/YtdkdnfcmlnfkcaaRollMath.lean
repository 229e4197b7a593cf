/-
  Weak sums, as numbers.
-/
import Derived.WalkKit
namespace Go.Proofs.Ytdkdnfcmlnfkcaa

/-- The sum of bytes. -/
def sA : List UInt8 → Nat
  | [] => 0
  | x :: l => x.toNat + sA l
/-- The sum of each, times how many there are from it on, the first of which is the last but n - 1. -/
def sB : Nat → List UInt8 → Nat
  | _, [] => 0
  | n, x :: l => n * x.toNat + sB (n - 1) l
/-- The weak sum. -/
def weakN (l : List UInt8) : Nat := sA l % 65536 + sB l.length l % 65536 * 65536
theorem weakN_lt (l : List UInt8) : weakN l < 4294967296 := by unfold weakN; omega
theorem sA_app (a b : List UInt8) : sA (a ++ b) = sA a + sA b := by
  induction a with
  | nil => simp [sA]
  | cons x a ih => simp only [List.cons_append, sA, ih]; omega
theorem sB_app (a b : List UInt8) : ∀ n, sB n (a ++ b) = sB n a + sB (n - a.length) b := by
  induction a with
  | nil => intro n; simp [sB]
  | cons x a ih =>
    intro n
    simp only [List.cons_append, sB, ih, List.length_cons]
    rw [show n - 1 - a.length = n - (a.length + 1) by omega]; omega
theorem sB_up (l : List UInt8) (k : Nat) : ∀ n, l.length ≤ n → sB (n + k) l = sB n l + k * sA l := by
  induction l with
  | nil => intro n _; simp [sB, sA]
  | cons x l ih =>
    intro n h
    simp only [List.length_cons] at h
    have e := ih (n - 1) (by omega)
    simp only [sB, sA]
    rw [show n + k - 1 = n - 1 + k by omega, e, Nat.add_mul, Nat.mul_add]; omega
theorem sA_snoc (l : List UInt8) (x : UInt8) : sA (l ++ [x]) = sA l + x.toNat := by rw [sA_app]; simp [sA]
theorem sB_snoc (l : List UInt8) (x : UInt8) : sB (l ++ [x]).length (l ++ [x]) = sB l.length l + sA l + x.toNat := by
  rw [sB_app, List.length_append, List.length_singleton, sB_up l 1 l.length (Nat.le_refl _)]
  simp [sB]
theorem sB_both (a b : List UInt8) : sB (a ++ b).length (a ++ b) = sB a.length a + b.length * sA a + sB b.length b := by
  rw [sB_app, List.length_append, sB_up a b.length a.length (Nat.le_refl _), show a.length + b.length - a.length = b.length by omega]
theorem weak_low (l : List UInt8) : weakN l % 65536 = sA l % 65536 := by unfold weakN; omega
theorem weak_high (l : List UInt8) : weakN l / 65536 = sB l.length l % 65536 := by unfold weakN; omega
/-- Half sums, put together. -/
def joinN (p q : Nat) : Nat := p % 65536 + q % 65536 * 65536
theorem weak_grow (l : List UInt8) (x : UInt8) : weakN (l ++ [x]) = joinN (weakN l % 65536 + x.toNat) (weakN l / 65536 + (weakN l % 65536 + x.toNat)) := by
  rw [weak_low, weak_high]
  unfold weakN joinN
  rw [sA_snoc, sB_snoc]
  omega
theorem weak_both (a b : List UInt8) : weakN (a ++ b) = joinN (weakN a % 65536 + weakN b % 65536) (weakN a / 65536 + b.length * (weakN a % 65536) + weakN b / 65536) := by
  rw [weak_low, weak_low, weak_high, weak_high]
  unfold weakN joinN
  rw [sA_app, sB_both]
  have h : (b.length * (sA a % 65536)) % 65536 = (b.length * sA a) % 65536 := by rw [Nat.mul_mod, Nat.mod_mod, ← Nat.mul_mod]
  generalize b.length * (sA a % 65536) = u at h ⊢
  generalize b.length * sA a = v at h ⊢
  omega
/-- What is left when the first byte has gone: its half sums, as u32 has them. -/
theorem weak_rest (l : List UInt8) (x : UInt8) (c : Nat) (hc : c = (l.length + 1) * x.toNat) (hl : c < 4294967296) : (joinN ((weakN (x :: l) % 65536 + 4294967296 - x.toNat) % 4294967296) ((weakN (x :: l) / 65536 + 4294967296 - c) % 4294967296)) = weakN l := by
  rw [weak_low, weak_high]
  have hx := x.toNat_lt
  unfold weakN joinN
  simp only [sA, sB, List.length_cons, Nat.add_sub_cancel]
  rw [← hc]
  omega
end Go.Proofs.Ytdkdnfcmlnfkcaa
