/-
  The law SketchAlike: its walk.
-/
import Derived.Test.YtpefcadlejcbbaaSkAwake
import Derived.Test.YtpefcadlejcbbaaSkRefAlike
import Derived.Deep.RegionHeld3
namespace Go.Proofs.Ytpefcadlejcbbaa
open Go.RowKit
set_option maxRecDepth 100000

/-- Two rows of eight numbers, and all below them as it was. -/
def TwoU (w : World) (a b : List Nat) (w' : World) : Prop :=
  w'.heap[w.heap.size]? = some (.cells (U a) 30 (0, 0)) ∧ w'.heap[w.heap.size + 1]? = some (.cells (U b) 30 (0, 0)) ∧ Below w.heap.size w w'
theorem TwoU.on {w W W2 : World} {a b : List Nat} (h : TwoU w a b W) (hb : Below W.heap.size W W2) : TwoU w a b W2 :=
  ⟨(hb.block _ (Array.getElem?_eq_some_iff.1 h.1).1).trans h.1, (hb.block _ (Array.getElem?_eq_some_iff.1 h.2.1).1).trans h.2.1, h.2.2.trans (hb.mono h.2.2.size)⟩
/-- The rows, cell by cell. -/
def TwoC (w : World) (a0 a1 a2 a3 a4 a5 a6 a7 b0 b1 b2 b3 b4 b5 b6 b7 : Nat) (w' : World) : Prop :=
  TwoU w [a0, a1, a2, a3, a4, a5, a6, a7] [b0, b1, b2, b3, b4, b5, b6, b7] w' ∧ w'.cell? ⟨w.heap.size, 0, none⟩ = some (.int .u64 (a0 : Nat)) ∧ w'.cell? ⟨w.heap.size, 1, none⟩ = some (.int .u64 (a1 : Nat)) ∧ w'.cell? ⟨w.heap.size, 2, none⟩ = some (.int .u64 (a2 : Nat)) ∧ w'.cell? ⟨w.heap.size, 3, none⟩ = some (.int .u64 (a3 : Nat)) ∧ w'.cell? ⟨w.heap.size, 4, none⟩ = some (.int .u64 (a4 : Nat)) ∧ w'.cell? ⟨w.heap.size, 5, none⟩ = some (.int .u64 (a5 : Nat)) ∧ w'.cell? ⟨w.heap.size, 6, none⟩ = some (.int .u64 (a6 : Nat)) ∧ w'.cell? ⟨w.heap.size, 7, none⟩ = some (.int .u64 (a7 : Nat)) ∧ w'.cell? ⟨w.heap.size + 1, 0, none⟩ = some (.int .u64 (b0 : Nat)) ∧ w'.cell? ⟨w.heap.size + 1, 1, none⟩ = some (.int .u64 (b1 : Nat)) ∧ w'.cell? ⟨w.heap.size + 1, 2, none⟩ = some (.int .u64 (b2 : Nat)) ∧ w'.cell? ⟨w.heap.size + 1, 3, none⟩ = some (.int .u64 (b3 : Nat)) ∧ w'.cell? ⟨w.heap.size + 1, 4, none⟩ = some (.int .u64 (b4 : Nat)) ∧ w'.cell? ⟨w.heap.size + 1, 5, none⟩ = some (.int .u64 (b5 : Nat)) ∧ w'.cell? ⟨w.heap.size + 1, 6, none⟩ = some (.int .u64 (b6 : Nat)) ∧ w'.cell? ⟨w.heap.size + 1, 7, none⟩ = some (.int .u64 (b7 : Nat))
theorem TwoU.cells {w W : World} {a0 a1 a2 a3 a4 a5 a6 a7 b0 b1 b2 b3 b4 b5 b6 b7 : Nat} (h : TwoU w [a0, a1, a2, a3, a4, a5, a6, a7] [b0, b1, b2, b3, b4, b5, b6, b7] W) : TwoC w a0 a1 a2 a3 a4 a5 a6 a7 b0 b1 b2 b3 b4 b5 b6 b7 W :=
  ⟨h, (cell_of_row _ _ _ _ _ _ h.1).trans (U_at _ _ _ rfl), (cell_of_row _ _ _ _ _ _ h.1).trans (U_at _ _ _ rfl), (cell_of_row _ _ _ _ _ _ h.1).trans (U_at _ _ _ rfl), (cell_of_row _ _ _ _ _ _ h.1).trans (U_at _ _ _ rfl), (cell_of_row _ _ _ _ _ _ h.1).trans (U_at _ _ _ rfl), (cell_of_row _ _ _ _ _ _ h.1).trans (U_at _ _ _ rfl), (cell_of_row _ _ _ _ _ _ h.1).trans (U_at _ _ _ rfl), (cell_of_row _ _ _ _ _ _ h.1).trans (U_at _ _ _ rfl), (cell_of_row _ _ _ _ _ _ h.2.1).trans (U_at _ _ _ rfl), (cell_of_row _ _ _ _ _ _ h.2.1).trans (U_at _ _ _ rfl), (cell_of_row _ _ _ _ _ _ h.2.1).trans (U_at _ _ _ rfl), (cell_of_row _ _ _ _ _ _ h.2.1).trans (U_at _ _ _ rfl), (cell_of_row _ _ _ _ _ _ h.2.1).trans (U_at _ _ _ rfl), (cell_of_row _ _ _ _ _ _ h.2.1).trans (U_at _ _ _ rfl), (cell_of_row _ _ _ _ _ _ h.2.1).trans (U_at _ _ _ rfl), (cell_of_row _ _ _ _ _ _ h.2.1).trans (U_at _ _ _ rfl)⟩

theorem keepT {w W W2 : World} {a0 a1 a2 a3 a4 a5 a6 a7 b0 b1 b2 b3 b4 b5 b6 b7 : Nat} (h : TwoU w [a0, a1, a2, a3, a4, a5, a6, a7] [b0, b1, b2, b3, b4, b5, b6, b7] W ∧ W.cell? ⟨w.heap.size, 0, none⟩ = some (.int .u64 (a0 : Nat)) ∧ W.cell? ⟨w.heap.size, 1, none⟩ = some (.int .u64 (a1 : Nat)) ∧ W.cell? ⟨w.heap.size, 2, none⟩ = some (.int .u64 (a2 : Nat)) ∧ W.cell? ⟨w.heap.size, 3, none⟩ = some (.int .u64 (a3 : Nat)) ∧ W.cell? ⟨w.heap.size, 4, none⟩ = some (.int .u64 (a4 : Nat)) ∧ W.cell? ⟨w.heap.size, 5, none⟩ = some (.int .u64 (a5 : Nat)) ∧ W.cell? ⟨w.heap.size, 6, none⟩ = some (.int .u64 (a6 : Nat)) ∧ W.cell? ⟨w.heap.size, 7, none⟩ = some (.int .u64 (a7 : Nat)) ∧ W.cell? ⟨w.heap.size + 1, 0, none⟩ = some (.int .u64 (b0 : Nat)) ∧ W.cell? ⟨w.heap.size + 1, 1, none⟩ = some (.int .u64 (b1 : Nat)) ∧ W.cell? ⟨w.heap.size + 1, 2, none⟩ = some (.int .u64 (b2 : Nat)) ∧ W.cell? ⟨w.heap.size + 1, 3, none⟩ = some (.int .u64 (b3 : Nat)) ∧ W.cell? ⟨w.heap.size + 1, 4, none⟩ = some (.int .u64 (b4 : Nat)) ∧ W.cell? ⟨w.heap.size + 1, 5, none⟩ = some (.int .u64 (b5 : Nat)) ∧ W.cell? ⟨w.heap.size + 1, 6, none⟩ = some (.int .u64 (b6 : Nat)) ∧ W.cell? ⟨w.heap.size + 1, 7, none⟩ = some (.int .u64 (b7 : Nat))) (hb : Below W.heap.size W W2) :
    TwoU w [a0, a1, a2, a3, a4, a5, a6, a7] [b0, b1, b2, b3, b4, b5, b6, b7] W2 ∧ W2.cell? ⟨w.heap.size, 0, none⟩ = some (.int .u64 (a0 : Nat)) ∧ W2.cell? ⟨w.heap.size, 1, none⟩ = some (.int .u64 (a1 : Nat)) ∧ W2.cell? ⟨w.heap.size, 2, none⟩ = some (.int .u64 (a2 : Nat)) ∧ W2.cell? ⟨w.heap.size, 3, none⟩ = some (.int .u64 (a3 : Nat)) ∧ W2.cell? ⟨w.heap.size, 4, none⟩ = some (.int .u64 (a4 : Nat)) ∧ W2.cell? ⟨w.heap.size, 5, none⟩ = some (.int .u64 (a5 : Nat)) ∧ W2.cell? ⟨w.heap.size, 6, none⟩ = some (.int .u64 (a6 : Nat)) ∧ W2.cell? ⟨w.heap.size, 7, none⟩ = some (.int .u64 (a7 : Nat)) ∧ W2.cell? ⟨w.heap.size + 1, 0, none⟩ = some (.int .u64 (b0 : Nat)) ∧ W2.cell? ⟨w.heap.size + 1, 1, none⟩ = some (.int .u64 (b1 : Nat)) ∧ W2.cell? ⟨w.heap.size + 1, 2, none⟩ = some (.int .u64 (b2 : Nat)) ∧ W2.cell? ⟨w.heap.size + 1, 3, none⟩ = some (.int .u64 (b3 : Nat)) ∧ W2.cell? ⟨w.heap.size + 1, 4, none⟩ = some (.int .u64 (b4 : Nat)) ∧ W2.cell? ⟨w.heap.size + 1, 5, none⟩ = some (.int .u64 (b5 : Nat)) ∧ W2.cell? ⟨w.heap.size + 1, 6, none⟩ = some (.int .u64 (b6 : Nat)) ∧ W2.cell? ⟨w.heap.size + 1, 7, none⟩ = some (.int .u64 (b7 : Nat)) := (h.1.on hb).cells

set_option maxHeartbeats 8000000 in
theorem sketchAlike_law (a b : List Nat) (w : World) (ha : a.length = 8) (hb : b.length = 8) :
    Calls Try.prog 4 #[.agg (U a), .agg (U b)] w fun e w' => e = .returned (.bool true) ∧ Below w.heap.size w w' := by
  obtain ⟨a0, a1, a2, a3, a4, a5, a6, a7, rfl⟩ := len8 a ha
  obtain ⟨b0, b1, b2, b3, b4, b5, b6, b7, rfl⟩ := len8 b hb
  obtain ⟨m0, m1, m2, m3, m4, m5, m6, m7, hm⟩ := len8 (lessL [a0, a1, a2, a3, a4, a5, a6, a7] [b0, b1, b2, b3, b4, b5, b6, b7]) rfl
  have HM := hide (fun W : World => (show Calls Try.prog 13 #[.agg #[.int .u64 (a0 : Nat), .int .u64 (a1 : Nat), .int .u64 (a2 : Nat), .int .u64 (a3 : Nat), .int .u64 (a4 : Nat), .int .u64 (a5 : Nat), .int .u64 (a6 : Nat), .int .u64 (a7 : Nat)], .agg #[.int .u64 (b0 : Nat), .int .u64 (b1 : Nat), .int .u64 (b2 : Nat), .int .u64 (b3 : Nat), .int .u64 (b4 : Nat), .int .u64 (b5 : Nat), .int .u64 (b6 : Nat), .int .u64 (b7 : Nat)]] W fun e w' => e = .returned (.agg #[.int .u64 (m0 : Nat), .int .u64 (m1 : Nat), .int .u64 (m2 : Nat), .int .u64 (m3 : Nat), .int .u64 (m4 : Nat), .int .u64 (m5 : Nat), .int .u64 (m6 : Nat), .int .u64 (m7 : Nat)]) ∧ Below W.heap.size W w' from by
    have h := merge_any _ _ W ha hb
    rw [hm] at h
    exact h))
  obtain ⟨n, hn⟩ : ∃ n, n = sameTo [a0, a1, a2, a3, a4, a5, a6, a7] [b0, b1, b2, b3, b4, b5, b6, b7] 8 := ⟨_, rfl⟩
  have HL := hide (fun W : World => (show Calls Try.prog 14 #[.agg #[.int .u64 (a0 : Nat), .int .u64 (a1 : Nat), .int .u64 (a2 : Nat), .int .u64 (a3 : Nat), .int .u64 (a4 : Nat), .int .u64 (a5 : Nat), .int .u64 (a6 : Nat), .int .u64 (a7 : Nat)], .agg #[.int .u64 (b0 : Nat), .int .u64 (b1 : Nat), .int .u64 (b2 : Nat), .int .u64 (b3 : Nat), .int .u64 (b4 : Nat), .int .u64 (b5 : Nat), .int .u64 (b6 : Nat), .int .u64 (b7 : Nat)]] W fun e w' => e = .returned (.int .i64 (n : Nat)) ∧ Below W.heap.size W w' from by
    rw [hn]; exact alike_any _ _ W ha hb))
  have HF := hide (fun W : World => (show Calls Try.prog 15 #[.agg #[.int .u64 (a0 : Nat), .int .u64 (a1 : Nat), .int .u64 (a2 : Nat), .int .u64 (a3 : Nat), .int .u64 (a4 : Nat), .int .u64 (a5 : Nat), .int .u64 (a6 : Nat), .int .u64 (a7 : Nat)], .agg #[.int .u64 (b0 : Nat), .int .u64 (b1 : Nat), .int .u64 (b2 : Nat), .int .u64 (b3 : Nat), .int .u64 (b4 : Nat), .int .u64 (b5 : Nat), .int .u64 (b6 : Nat), .int .u64 (b7 : Nat)]] W fun e w' => e = .returned (.int .i64 (n : Nat)) ∧ Below W.heap.size W w' from by
    rw [hn]; exact refAlike_any _ _ W ha hb))
  have HS := hide (fun W : World => (show Calls Try.prog 14 #[.agg #[.int .u64 (a0 : Nat), .int .u64 (a1 : Nat), .int .u64 (a2 : Nat), .int .u64 (a3 : Nat), .int .u64 (a4 : Nat), .int .u64 (a5 : Nat), .int .u64 (a6 : Nat), .int .u64 (a7 : Nat)], .agg #[.int .u64 (a0 : Nat), .int .u64 (a1 : Nat), .int .u64 (a2 : Nat), .int .u64 (a3 : Nat), .int .u64 (a4 : Nat), .int .u64 (a5 : Nat), .int .u64 (a6 : Nat), .int .u64 (a7 : Nat)]] W fun e w' => e = .returned (.int .i64 8) ∧ Below W.heap.size W w' from by
    have h := alike_any [a0, a1, a2, a3, a4, a5, a6, a7] [a0, a1, a2, a3, a4, a5, a6, a7] W ha ha
    rw [sameTo_self] at h
    exact h))
  have HQ := hide (show ∀ k x y : Nat, [a0, a1, a2, a3, a4, a5, a6, a7][k]? = some x → [b0, b1, b2, b3, b4, b5, b6, b7][k]? = some y → [m0, m1, m2, m3, m4, m5, m6, m7][k]? = some (min x y) from fun k x y h1 h2 => by
    rw [← hm]
    unfold lessL
    rw [List.getElem?_zipWith, h1, h2])
  clear hn hm
  rw [show U [a0, a1, a2, a3, a4, a5, a6, a7] = #[.int .u64 (a0 : Nat), .int .u64 (a1 : Nat), .int .u64 (a2 : Nat), .int .u64 (a3 : Nat), .int .u64 (a4 : Nat), .int .u64 (a5 : Nat), .int .u64 (a6 : Nat), .int .u64 (a7 : Nat)] from rfl, show U [b0, b1, b2, b3, b4, b5, b6, b7] = #[.int .u64 (b0 : Nat), .int .u64 (b1 : Nat), .int .u64 (b2 : Nat), .int .u64 (b3 : Nat), .int .u64 (b4 : Nat), .int .u64 (b5 : Nat), .int .u64 (b6 : Nat), .int .u64 (b7 : Nat)] from rfl]
  obtain ⟨r0, r1, hB⟩ := two_rows w #[.int .u64 (a0 : Nat), .int .u64 (a1 : Nat), .int .u64 (a2 : Nat), .int .u64 (a3 : Nat), .int .u64 (a4 : Nat), .int .u64 (a5 : Nat), .int .u64 (a6 : Nat), .int .u64 (a7 : Nat)] #[.int .u64 (b0 : Nat), .int .u64 (b1 : Nat), .int .u64 (b2 : Nat), .int .u64 (b3 : Nat), .int .u64 (b4 : Nat), .int .u64 (b5 : Nat), .int .u64 (b6 : Nat), .int .u64 (b7 : Nat)] 30 30
  have HT := hide (show TwoU w [a0, a1, a2, a3, a4, a5, a6, a7] [b0, b1, b2, b3, b4, b5, b6, b7] ((w.alloc (.cells #[.int .u64 (a0 : Nat), .int .u64 (a1 : Nat), .int .u64 (a2 : Nat), .int .u64 (a3 : Nat), .int .u64 (a4 : Nat), .int .u64 (a5 : Nat), .int .u64 (a6 : Nat), .int .u64 (a7 : Nat)] 30)).alloc (.cells #[.int .u64 (b0 : Nat), .int .u64 (b1 : Nat), .int .u64 (b2 : Nat), .int .u64 (b3 : Nat), .int .u64 (b4 : Nat), .int .u64 (b5 : Nat), .int .u64 (b6 : Nat), .int .u64 (b7 : Nat)] 30)) from ⟨r0, r1, hB⟩)
  clear r0 r1 hB ha hb
  go_enter Try.func4, Try.ntmps4
  go_wp2_with fail
  generalize ((w.alloc (.cells #[.int .u64 (a0 : Nat), .int .u64 (a1 : Nat), .int .u64 (a2 : Nat), .int .u64 (a3 : Nat), .int .u64 (a4 : Nat), .int .u64 (a5 : Nat), .int .u64 (a6 : Nat), .int .u64 (a7 : Nat)] 30)).alloc (.cells #[.int .u64 (b0 : Nat), .int .u64 (b1 : Nat), .int .u64 (b2 : Nat), .int .u64 (b3 : Nat), .int .u64 (b4 : Nat), .int .u64 (b5 : Nat), .int .u64 (b6 : Nat), .int .u64 (b7 : Nat)] 30)) = w2 at HT ⊢
  refine (HM.out w2).mono ?_
  rintro e w3 ⟨rfl, hB3⟩
  have HT3 := hide (HT.out.on hB3)
  obtain ⟨g, hg⟩ : ∃ g, g = w3.heap.size := ⟨_, rfl⟩
  have f1 : (w3.alloc (.cells #[.int .u64 (m0 : Nat), .int .u64 (m1 : Nat), .int .u64 (m2 : Nat), .int .u64 (m3 : Nat), .int .u64 (m4 : Nat), .int .u64 (m5 : Nat), .int .u64 (m6 : Nat), .int .u64 (m7 : Nat)] 30)).heap[w3.heap.size]? = some (.cells (U [m0, m1, m2, m3, m4, m5, m6, m7]) 30 (0, 0)) := World.alloc_heap_new w3 (.cells #[.int .u64 (m0 : Nat), .int .u64 (m1 : Nat), .int .u64 (m2 : Nat), .int .u64 (m3 : Nat), .int .u64 (m4 : Nat), .int .u64 (m5 : Nat), .int .u64 (m6 : Nat), .int .u64 (m7 : Nat)] 30)
  have HT5 := hide (HT3.out.on ((Below.refl _ w3).alloc (Nat.le_refl _) (.cells #[.int .u64 (m0 : Nat), .int .u64 (m1 : Nat), .int .u64 (m2 : Nat), .int .u64 (m3 : Nat), .int .u64 (m4 : Nat), .int .u64 (m5 : Nat), .int .u64 (m6 : Nat), .int .u64 (m7 : Nat)] 30)))
  clear hB3 HT HM HT3
  go_wp2_with fail
  rw [← hg] at f1 ⊢
  generalize (w3.alloc (.cells #[.int .u64 (m0 : Nat), .int .u64 (m1 : Nat), .int .u64 (m2 : Nat), .int .u64 (m3 : Nat), .int .u64 (m4 : Nat), .int .u64 (m5 : Nat), .int .u64 (m6 : Nat), .int .u64 (m7 : Nat)] 30)) = w5 at f1 HT5 ⊢
  clear hg
  go_loopw [4, 6] (fun _ i wr => ∃ k : Nat, k ≤ 8 ∧ i = .int .i64 k ∧ wr.heap[g]? = some (.cells (U [m0, m1, m2, m3, m4, m5, m6, m7]) 30 (0, 0)) ∧ Hid (TwoU w [a0, a1, a2, a3, a4, a5, a6, a7] [b0, b1, b2, b3, b4, b5, b6, b7] wr)) (fun _ i _ => 8 - (intOf i).toNat)
  case atStart => exact ⟨0, by decide, rfl, f1, HT5⟩
  case round =>
    clear f1 HT5
    obtain ⟨k, hk, rfl, rm, HT⟩ := hrel
    by_cases hlt : (k : Int) < 8
    · have hk8 : k < 8 := by omega
      obtain ⟨x, hx⟩ : ∃ x, [a0, a1, a2, a3, a4, a5, a6, a7][k]? = some x := ⟨_, List.getElem?_eq_getElem (by simp; omega)⟩
      obtain ⟨y, hy⟩ : ∃ y, [b0, b1, b2, b3, b4, b5, b6, b7][k]? = some y := ⟨_, List.getElem?_eq_getElem (by simp; omega)⟩
      obtain ⟨v, hv⟩ : ∃ v, v = min x y := ⟨_, rfl⟩
      have hq := HQ.out k x y hx hy
      rw [← hv] at hq
      have i0 := index8 w.heap.size k hk8
      have i1 := index8 (w.heap.size + 1) k hk8
      have i2 := index8 g k hk8
      have cx : wr.cell? ⟨w.heap.size, k, none⟩ = some (.int .u64 (x : Nat)) := (cell_of_row _ _ _ _ _ _ HT.out.1).trans (U_at _ _ _ hx)
      have cy : wr.cell? ⟨w.heap.size + 1, k, none⟩ = some (.int .u64 (y : Nat)) := (cell_of_row _ _ _ _ _ _ HT.out.2.1).trans (U_at _ _ _ hy)
      have cm : wr.cell? ⟨g, k, none⟩ = some (.int .u64 (v : Nat)) := (cell_of_row _ _ _ _ _ _ rm).trans (U_at _ _ _ hq)
      have hmi : (if y < x then (y : Int) else (x : Int)) = (v : Int) := by split <;> omega
      have hb1 := HT.out.2.2
      have HD := hide (show wr.drew.heap[g]? = some (.cells (U [m0, m1, m2, m3, m4, m5, m6, m7]) 30 (0, 0)) ∧ TwoU w [a0, a1, a2, a3, a4, a5, a6, a7] [b0, b1, b2, b3, b4, b5, b6, b7] wr.drew from ⟨rm, HT.out.1, HT.out.2.1, ⟨hb1.os, hb1.tape, hb1.output, hb1.size, hb1.block⟩⟩)
      clear hx hy hq hv rm HT hb1
      go_wp2_with fail
      go_still (by kernel_rfl)
      go_wp2_with fail
      go_roundw
      case rel => exact ⟨k + 1, hk8, rfl, HD.out.1, hide HD.out.2⟩
      case measure => simp [intOf]; omega
    · obtain rfl : k = 8 := by omega
      have hb1 := HT.out.2.2
      have hdx : TwoC w a0 a1 a2 a3 a4 a5 a6 a7 b0 b1 b2 b3 b4 b5 b6 b7 wr.drew := TwoU.cells ⟨HT.out.1, HT.out.2.1, ⟨hb1.os, hb1.tape, hb1.output, hb1.size, hb1.block⟩⟩
      clear rm HT hb1 HQ
      go_wp2_with fail
      go_region_held3 (fun w' => TwoU w [a0, a1, a2, a3, a4, a5, a6, a7] [b0, b1, b2, b3, b4, b5, b6, b7] w' ∧ w'.cell? ⟨w.heap.size, 0, none⟩ = some (.int .u64 (a0 : Nat)) ∧ w'.cell? ⟨w.heap.size, 1, none⟩ = some (.int .u64 (a1 : Nat)) ∧ w'.cell? ⟨w.heap.size, 2, none⟩ = some (.int .u64 (a2 : Nat)) ∧ w'.cell? ⟨w.heap.size, 3, none⟩ = some (.int .u64 (a3 : Nat)) ∧ w'.cell? ⟨w.heap.size, 4, none⟩ = some (.int .u64 (a4 : Nat)) ∧ w'.cell? ⟨w.heap.size, 5, none⟩ = some (.int .u64 (a5 : Nat)) ∧ w'.cell? ⟨w.heap.size, 6, none⟩ = some (.int .u64 (a6 : Nat)) ∧ w'.cell? ⟨w.heap.size, 7, none⟩ = some (.int .u64 (a7 : Nat)) ∧ w'.cell? ⟨w.heap.size + 1, 0, none⟩ = some (.int .u64 (b0 : Nat)) ∧ w'.cell? ⟨w.heap.size + 1, 1, none⟩ = some (.int .u64 (b1 : Nat)) ∧ w'.cell? ⟨w.heap.size + 1, 2, none⟩ = some (.int .u64 (b2 : Nat)) ∧ w'.cell? ⟨w.heap.size + 1, 3, none⟩ = some (.int .u64 (b3 : Nat)) ∧ w'.cell? ⟨w.heap.size + 1, 4, none⟩ = some (.int .u64 (b4 : Nat)) ∧ w'.cell? ⟨w.heap.size + 1, 5, none⟩ = some (.int .u64 (b5 : Nat)) ∧ w'.cell? ⟨w.heap.size + 1, 6, none⟩ = some (.int .u64 (b6 : Nat)) ∧ w'.cell? ⟨w.heap.size + 1, 7, none⟩ = some (.int .u64 (b7 : Nat)))
        (first
          | assumption
          | exact hdx
          | exact keepT (by assumption) hbk)
        (first
          | (go_at_call 8; refine (skAwake_any _).mono ?_; rintro e wk ⟨rfl, hbk⟩)
          | (go_at_call 15; with_reducible refine (HF.out _).mono ?_; rintro e wk ⟨rfl, hbk⟩)
          | (go_at_call 14; with_reducible refine (HL.out _).mono ?_; rintro e wk ⟨rfl, hbk⟩)
          | (go_at_call 14; with_reducible refine (HS.out _).mono ?_; rintro e wk ⟨rfl, hbk⟩))
      all_goals
        rename_i hH2
        go_wp2_with fail
        exact bodyPost_ret (results_tmp rfl _ _ _) rfl ⟨rfl, hH2.1.2.2⟩
end Go.Proofs.Ytpefcadlejcbbaa
