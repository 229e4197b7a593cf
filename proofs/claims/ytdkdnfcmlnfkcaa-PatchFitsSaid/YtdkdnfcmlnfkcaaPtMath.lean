/-
  All blocks, one behind the other, are the bytes.
-/
import Derived.Test.YtdkdnfcmlnfkcaaPtApply
import Derived.Test.YtdkdnfcmlnfkcaaPtRefStep
namespace Go.Proofs.Ytdkdnfcmlnfkcaa
open Go.RowKit
set_option maxRecDepth 100000

theorem manyB_app (l : List UInt8) (size f : Int) (a : Nat) : ∀ b : Nat, manyB l size f a ++ manyB l size (f + a) b = manyB l size f (a + b)
  | 0 => by simp [manyB]
  | b + 1 => by
    rw [manyB, ← List.append_assoc, manyB_app l size f a b, ← Nat.add_assoc, manyB]
    congr 2
    omega
theorem manyB_take (l : List UInt8) (size : Int) (h : Nat) (hh : fitN size = h) : ∀ j : Nat, j ≤ (countN l.length size).toNat → manyB l size 0 j = l.take (j * h)
  | 0, _ => by simp [manyB]
  | j + 1, hj => by
    rw [manyB, manyB_take l size h hh j (by omega), Int.zero_add, (blk_here l size h j hh (by omega)).2, Nat.add_mul, Nat.one_mul, List.take_add]
theorem manyB_all (l : List UInt8) (size : Int) : manyB l size 0 (countN l.length size).toNat = l := by
  have hf := fitN_in size
  obtain ⟨h, hh⟩ : ∃ h : Nat, fitN size = h := ⟨(fitN size).toNat, by omega⟩
  rw [manyB_take l size h hh _ (Nat.le_refl _)]
  apply List.take_of_length_le
  have h1 := count_ge (l.length : Int) (fitN size) hf.1
  rw [← countN_nat, hh] at h1
  have h2 := countN_nn l.length size
  have h3 : ((countN l.length size).toNat : Int) = countN l.length size := by omega
  rw [← h3] at h1
  exact_mod_cast h1
/-- A token of blocks. -/
def cpT (f : Int) (m : Nat) : Tk := ⟨f, m, ⟨#[]⟩⟩
theorem cpT_right (f m : Nat) (hm : m ≠ 0) (h : f + m ≤ 4097) : rightT (cpT f m) = true := by
  unfold rightT cpT
  have : ¬ (m : Int) = 0 := by omega
  simp only [this, if_false]
  simp
  exact ⟨by omega, rfl⟩
theorem cpT_wrong (f : Nat) : rightT (cpT f 0) = false := by
  unfold rightT cpT
  simp
  intro _ h
  exact absurd h (by decide)
theorem cpT_E (n : Nat) (size : Int) (f m : Nat) (hm : m ≠ 0) (h : f + m ≤ 4097) (hc : (f : Int) + m ≤ countN n size) : stepE n size (cpT f m) = 0 := by
  unfold stepE
  rw [cpT_right f m hm h, if_pos rfl, if_pos (by show (f : Int) + (m : Int) ≤ _; exact hc)]
theorem cpT_L (l : List UInt8) (size : Int) (f m : Nat) (hm : m ≠ 0) (h : f + m ≤ 4097) (hc : (f : Int) + m ≤ countN l.length size) : stepL l size (cpT f m) = manyB l size f m := by
  unfold stepL
  rw [if_pos (cpT_E l.length size f m hm h hc)]
  unfold stepV cpT
  simp [toL]
/-- All blocks: what a token of all of them stands for. -/
theorem all_here (l : List UInt8) (size : Int) (N : Nat) (hN : (countN l.length size).toNat = N) (h0 : N ≠ 0) (h4 : N ≤ 4097) : stepE l.length size (cpT 0 N) = 0 ∧ stepL l size (cpT 0 N) = l := by
  have hnn := countN_nn l.length size
  refine ⟨cpT_E l.length size 0 N h0 (by omega) (by omega), ?_⟩
  have := cpT_L l size 0 N h0 (by omega) (by omega)
  rw [show cpT ((0 : Nat) : Int) N = cpT 0 N from rfl] at this
  rw [this, ← hN]
  exact manyB_all l size
theorem none_here (l : List UInt8) (size : Int) : stepE l.length size (cpT 0 0) = 1 ∧ stepL l size (cpT 0 0) = [] := by
  have h := cpT_wrong 0
  have hE : stepE l.length size (cpT 0 0) = 1 := by
    unfold stepE
    rw [show cpT 0 0 = cpT ((0 : Nat) : Int) 0 from rfl, h]; rfl
  exact ⟨hE, by unfold stepL; rw [hE]; rfl⟩
/-- In two parts. -/
theorem two_parts (l : List UInt8) (size : Int) (N k : Nat) (hN : (countN l.length size).toNat = N) (hk : k + 1 < N) (h4 : N ≤ 4097) (hl : l.length ≤ 16384) :
    applyE l size [cpT 0 (k + 1), cpT ((k + 1 : Nat) : Int) (N - k - 1)] = 0 ∧ applyL l size [cpT 0 (k + 1), cpT ((k + 1 : Nat) : Int) (N - k - 1)] = l := by
  have hnn := countN_nn l.length size
  have e1 := cpT_E l.length size 0 (k + 1) (by omega) (by omega) (by omega)
  have e2 := cpT_E l.length size (k + 1) (N - k - 1) (by omega) (by omega) (by omega)
  have l1 := cpT_L l size 0 (k + 1) (by omega) (by omega) (by omega)
  have l2 := cpT_L l size (k + 1) (N - k - 1) (by omega) (by omega) (by omega)
  rw [show cpT ((0 : Nat) : Int) (k + 1) = cpT 0 (k + 1) from rfl] at e1 l1
  have happ := manyB_app l size 0 (k + 1) (N - k - 1)
  rw [Int.zero_add, show k + 1 + (N - k - 1) = N by omega, ← hN, manyB_all l size, hN] at happ
  have hlen : (manyB l size 0 (k + 1)).length + (manyB l size ((k + 1 : Nat) : Int) (N - k - 1)).length = l.length := by rw [← List.length_append, happ]
  have g : goAll l size [cpT 0 (k + 1), cpT ((k + 1 : Nat) : Int) (N - k - 1)] [] = (0, l) := by
    have s1 : goStep l size (cpT 0 (k + 1)) [] = (0, manyB l size 0 (k + 1)) := by
      unfold goStep
      rw [if_pos e1, l1, if_neg (by simp; omega)]
      rfl
    have s2 : goStep l size (cpT ((k + 1 : Nat) : Int) (N - k - 1)) (manyB l size 0 (k + 1)) = (0, l) := by
      unfold goStep
      rw [if_pos e2, l2, if_neg (by omega), happ]
    unfold goAll
    rw [s1, if_pos rfl]
    unfold goAll
    rw [s2, if_pos rfl]
    rfl
  unfold applyE applyL
  rw [g]
  exact ⟨rfl, rfl⟩
theorem last_part (l : List UInt8) (size : Int) (N : Nat) (hN : (countN l.length size).toNat = N) (h0 : N ≠ 0) (h4 : N ≤ 4097) (hl : l.length ≤ 16384) :
    applyE l size [cpT 0 N, cpT (N : Int) 0] = 1 ∧ applyL l size [cpT 0 N, cpT (N : Int) 0] = [] := by
  obtain ⟨e1, l1⟩ := all_here l size N hN h0 h4
  have e2 : stepE l.length size (cpT (N : Int) 0) = 1 := by unfold stepE; rw [cpT_wrong N]; rfl
  have g : goAll l size [cpT 0 N, cpT (N : Int) 0] [] = (1, l) := by
    have s1 : goStep l size (cpT 0 N) [] = (0, l) := by
      unfold goStep
      rw [if_pos e1, l1, if_neg (by simp; omega)]
      rfl
    have s2 : goStep l size (cpT (N : Int) 0) l = (1, l) := by
      unfold goStep
      rw [e2, if_neg (by decide)]
    unfold goAll
    rw [s1, if_pos rfl]
    unfold goAll
    rw [s2, if_neg (show ¬ ((1 : Nat) = 0) by decide)]
  unfold applyE applyL
  rw [g]
  exact ⟨rfl, rfl⟩
end Go.Proofs.Ytdkdnfcmlnfkcaa
