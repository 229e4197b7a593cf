/-
  The blocks of bytes that an iterator reads.
-/
import Derived.Test.YtdkdnfcmlnfkcaaBytes
import Derived.Test.YtdkdnfcmlnfkcaaRangeK
namespace Go.Proofs.Ytdkdnfcmlnfkcaa
open Go.RowKit
set_option maxRecDepth 100000

/-- The blocks of bytes. -/
def blkA : Option Addr → List Nat
  | none => []
  | some a => [a.block]
/-- The blocks of bytes, if there are any. -/
def blkR (A : Option Addr) : List UInt8 → List Nat
  | [] => []
  | _ :: _ => blkA A
theorem RdB.lies {U : Nat → Prop} {w w' : World} {B B' : Nat} {A : Option Addr} {l : List UInt8} (h : RdB w B A l) (hl : Lies U w w') (hU : ∀ k, k ∈ blkR A l → U k) (hB : B ≤ B') : RdB w' B' A l := fun k x hx => by
  have hU : ∀ k, k ∈ blkA A → U k := by
    cases l with
    | nil => simp at hx
    | cons y r => exact hU
  obtain ⟨ad, rfl, hb, hc⟩ := h k x hx
  refine ⟨ad, rfl, by omega, ?_⟩
  rw [← hc]
  unfold World.cell?
  rw [hl.2 _ (hU _ (by rw [add_block]; simp [blkA]))]

theorem blkR_lt {w : World} {A : Option Addr} {l : List UInt8} (h : RdB w w.heap.size A l) : ∀ k, k ∈ blkR A l → k < w.heap.size := fun k hk => by
  cases l with
  | nil => simp [blkR] at hk
  | cons y r =>
    cases A with
    | none => simp [blkR, blkA] at hk
    | some ad =>
      simp [blkR, blkA] at hk
      subst hk
      exact h.spot.2

end Go.Proofs.Ytdkdnfcmlnfkcaa
