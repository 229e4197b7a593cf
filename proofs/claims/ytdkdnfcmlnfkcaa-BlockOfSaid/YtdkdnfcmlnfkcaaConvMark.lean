/-
  Bytes of a literal, as a slice: the conversion that only marks; rows of bytes that bear a mark.
-/
import Derived.Test.YtdkdnfcmlnfkcaaBytes
import Derived.Lib.UnsafeStr
namespace Go.Proofs.Ytdkdnfcmlnfkcaa
open Go.RowKit
set_option maxRecDepth 100000

theorem conv_self (W : World) (b n : Nat) (cs : Array Value) (t : TypeId) (h : W.heap[b]? = some (.cells cs t (0, 0))) :
    ∃ w2, (convert 22 22 (.slice (some ⟨b, 0, none⟩) n n)).run Try.prog W = .ok (.slice (some ⟨b, 0, none⟩) n n) w2 ∧ Below b W w2 ∧ w2.heap[b]? = some (.cells cs t (cs.size, cs.size + 1)) ∧ w2.heap.size = W.heap.size := by
  have hs : W.shape? b = some (t, cs.size) := by unfold World.shape?; rw [h]
  refine ⟨W.freeze ⟨b, cs.size, none⟩ 1, ?_, Lib.below_freeze (B := b) (Below.refl b W) (p := ⟨b, cs.size, none⟩) (Nat.le_refl b) 1, ?_, by simp [World.freeze]⟩
  · simp [convert, run_underlying Try.underlying22, run_underlying Try.underlying5, markStringish, hs]
  · simp [World.freeze, Array.getElem?_modify, h]
theorem row_bytes {W : World} {g : Nat} {l : List UInt8} {t : TypeId} {fz : Nat × Nat} (h : W.heap[g]? = some (.cells (l.map byteV).toArray t fz)) : RdB W W.heap.size (some ⟨g, 0, none⟩) l := fun k x hx => by
  refine ⟨_, rfl, (Array.getElem?_eq_some_iff.1 h).1, ?_⟩
  have e : ((⟨g, 0, none⟩ : Addr).add k) = ⟨g, k, none⟩ := by unfold Addr.add; split <;> simp_all
  rw [e]
  unfold World.cell?
  rw [h]
  simp [hx]
end Go.Proofs.Ytdkdnfcmlnfkcaa
