/-
  A set of bytes as four words in memory: what the operations on words make of it.
-/
import Derived.Test.YtmdlefagkfkenabGlobMath
import Derived.WalkKit
import Derived.Deep.QuietTactic
import Derived.Lib.Strings
namespace Go.Proofs.Ytmdlefagkfkenab
open Go.RowKit

theorem hide {p : Prop} (h : p) : Hid p := h

def spanP (a k : Nat) : Nat → Bool := fun x => decide (a ≤ x) && decide (x < k)
def inNameP : Nat → Bool := fun x => spanP 0 256 x && !spanP 47 48 x
def setV (P : Nat → Bool) : Array Value := #[.int .u64 (wd P 0 : Nat), .int .u64 (wd P 1 : Nat), .int .u64 (wd P 2 : Nat), .int .u64 (wd P 3 : Nat)]

theorem setV_congr {P Q : Nat → Bool} (h : ∀ x, x < 256 → P x = Q x) : setV P = setV Q := by
  unfold setV
  rw [wd_congr (k := 0) (fun j hj => h _ (by omega)), wd_congr (k := 1) (fun j hj => h _ (by omega)), wd_congr (k := 2) (fun j hj => h _ (by omega)), wd_congr (k := 3) (fun j hj => h _ (by omega))]

theorem wd_empty (k : Nat) : wd (fun _ => false) k = 0 := by
  apply Nat.eq_of_testBit_eq
  intro j
  rw [wd_bit]; simp

theorem setV_empty {P : Nat → Bool} (h : ∀ x, P x = false) : #[Value.int IntKind.u64 0, Value.int IntKind.u64 0, Value.int IntKind.u64 0, Value.int IntKind.u64 0] = setV P := by
  rw [setV_congr (Q := fun _ => false) (fun x _ => h x)]
  unfold setV
  simp [wd_empty]

theorem World.setCell_drewN' (w : World) (n : Nat) (a : Addr) (v : Value) : (w.drewN n).setCell a v = (w.setCell a v).drewN n := rfl
theorem World.alloc_drewN' (w : World) (n : Nat) (o : Obj) : (w.drewN n).alloc o = (w.alloc o).drewN n := rfl
theorem below_drewN {B : Nat} {a w : World} (h : Below B a w) (n : Nat) : Below B a (w.drewN n) := ⟨h.os, h.tape, h.output, h.size, h.block⟩
theorem below_drew {B : Nat} {a w : World} (h : Below B a w) : Below B a w.drew := ⟨h.os, h.tape, h.output, h.size, h.block⟩
theorem setLast (W : World) (c : Array Value) (t n i m : Nat) (v : Value) (hm : m = W.heap.size) :
    ((W.alloc (.cells c t)).drewN n).setCell ⟨m, i, none⟩ v = (W.alloc (.cells (c.setIfInBounds i v) t)).drewN n := by
  rw [World.setCell_drewN', World.setCell_alloc_at _ _ _ _ _ hm]

/-- The words of P, the first k of them R's. -/
def mixV (k : Nat) (P R : Nat → Bool) : Array Value :=
  #[.int .u64 ((if 0 < k then wd R 0 else wd P 0 : Nat) : Int), .int .u64 ((if 1 < k then wd R 1 else wd P 1 : Nat) : Int), .int .u64 ((if 2 < k then wd R 2 else wd P 2 : Nat) : Int), .int .u64 ((if 3 < k then wd R 3 else wd P 3 : Nat) : Int)]
theorem mixV_0 (P R : Nat → Bool) : mixV 0 P R = #[.int .u64 (wd P 0 : Nat), .int .u64 (wd P 1 : Nat), .int .u64 (wd P 2 : Nat), .int .u64 (wd P 3 : Nat)] := rfl
theorem mixV_1 (P R : Nat → Bool) : mixV 1 P R = #[.int .u64 (wd R 0 : Nat), .int .u64 (wd P 1 : Nat), .int .u64 (wd P 2 : Nat), .int .u64 (wd P 3 : Nat)] := rfl
theorem mixV_2 (P R : Nat → Bool) : mixV 2 P R = #[.int .u64 (wd R 0 : Nat), .int .u64 (wd R 1 : Nat), .int .u64 (wd P 2 : Nat), .int .u64 (wd P 3 : Nat)] := rfl
theorem mixV_3 (P R : Nat → Bool) : mixV 3 P R = #[.int .u64 (wd R 0 : Nat), .int .u64 (wd R 1 : Nat), .int .u64 (wd R 2 : Nat), .int .u64 (wd P 3 : Nat)] := rfl
theorem mixV_4 (P R : Nat → Bool) : mixV 4 P R = #[.int .u64 (wd R 0 : Nat), .int .u64 (wd R 1 : Nat), .int .u64 (wd R 2 : Nat), .int .u64 (wd R 3 : Nat)] := rfl

theorem word_or (P Q : Nat → Bool) (i : Nat) : bits BinOp.or IntKind.u64 (wd P i : Nat) (wd Q i : Nat) = ((wd (fun x => P x || Q x) i : Nat) : Int) := by
  rw [u64_or_nat _ _ (wd_lt P i) (wd_lt Q i), wd_or]
theorem word_andNot (P Q : Nat → Bool) (i : Nat) : bits BinOp.andNot IntKind.u64 (wd P i : Nat) (wd Q i : Nat) = ((wd (fun x => P x && !Q x) i : Nat) : Int) := by
  rw [u64_andNot_nat _ _ (wd_lt P i) (wd_lt Q i), wd_andNot]

theorem word_set (P : Nat → Bool) (i k : Nat) (hk : k / 64 = i) : bits BinOp.or IntKind.u64 (wd P i : Nat) (IntKind.u64.wrap (2 ^ (k % 64))) = ((wd (fun x => P x || x == k) i : Nat) : Int) := by
  have hj : k % 64 < 64 := Nat.mod_lt _ (by omega)
  have hp : 2 ^ (k % 64) < 18446744073709551616 := Nat.lt_of_lt_of_le (Nat.pow_lt_pow_right (by omega) hj) (by decide)
  have e : IntKind.u64.wrap (2 ^ (k % 64)) = ((2 ^ (k % 64) : Nat) : Int) := by
    rw [IntKind.wrap_u64]
    have : ((2 : Int) ^ (k % 64)) = ((2 ^ (k % 64) : Nat) : Int) := by simp
    rw [this]
    exact Int.emod_eq_of_lt (Int.natCast_nonneg _) (by omega)
  rw [e, u64_or_nat _ _ (wd_lt P i) hp, wd_set P i _ hj]
  have : 64 * i + k % 64 = k := by omega
  rw [this]

theorem word_other (P : Nat → Bool) (i k : Nat) (hk : k / 64 ≠ i) : wd (fun x => P x || x == k) i = wd P i := by
  apply wd_congr
  intro j hj
  have : ¬ (64 * i + j = k) := by omega
  simp [this]

theorem span_grow (a k : Nat) (h : a ≤ k) : spanP a (k + 1) = fun x => spanP a k x || x == k := by
  funext x
  unfold spanP
  by_cases h1 : x = k
  · subst h1; simp [h]
  · have : (x < k + 1) ↔ (x < k) := by omega
    simp [h1, this]

theorem span_store (a k i : Nat) (h : a ≤ k) (hk : k / 64 = i) (hi : i < 4) :
    (setV (spanP a k)).setIfInBounds i (.int .u64 (bits BinOp.or IntKind.u64 (wd (spanP a k) i : Nat) (IntKind.u64.wrap (2 ^ (k % 64))))) = setV (spanP a (k + 1)) := by
  rw [word_set _ _ _ hk, span_grow a k h]
  have hq : i = 0 ∨ i = 1 ∨ i = 2 ∨ i = 3 := by omega
  unfold setV
  rcases hq with e | e | e | e <;> subst e
  · rw [word_other _ 1 k (by omega), word_other _ 2 k (by omega), word_other _ 3 k (by omega)]; rfl
  · rw [word_other _ 0 k (by omega), word_other _ 2 k (by omega), word_other _ 3 k (by omega)]; rfl
  · rw [word_other _ 0 k (by omega), word_other _ 1 k (by omega), word_other _ 3 k (by omega)]; rfl
  · rw [word_other _ 0 k (by omega), word_other _ 1 k (by omega), word_other _ 2 k (by omega)]; rfl

theorem word_has (P : Nat → Bool) (b : Nat) : (bits BinOp.and IntKind.u64 (((wd P (b / 64) : Nat) : Int) / 2 ^ (b % 64)) 1 == 1) = P b := by
  have h := wd_has P b
  have e1 : ((1 : Nat) : Int) = 1 := rfl
  have e2 : ((wd P (b / 64) : Nat) : Int) / 2 ^ (b % 64) = ((wd P (b / 64) / 2 ^ (b % 64) : Nat) : Int) := by
    rw [Int.natCast_ediv, Int.natCast_pow]; rfl
  rw [e2, ← e1, u64_and_nat _ _ (Nat.lt_of_le_of_lt (Nat.div_le_self _ _) (wd_lt P _)) (by decide), Nat.and_one_is_mod, h]
  cases P b <;> rfl
end Go.Proofs.Ytmdlefagkfkenab
