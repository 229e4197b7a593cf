/-
  flittinglaw12.awake: the page's example.
-/
import Derived.Test.YtbklgijndjpgoaaDoorMkLike
import Derived.Test.YtbklgijndjpgoaaDoorMkAll
namespace Go.Proofs.YtbklgijndjpgoaaDoor
open Go.RowKit
set_option maxRecDepth 100000

def ta : List Nd := [⟨⟨#[97]⟩, 1, 0, 0, ⟨#[]⟩⟩, ⟨⟨#[97, 47, 120]⟩, 2, 0, 0, ⟨#[49]⟩⟩, ⟨⟨#[98]⟩, 1, 0, 0, ⟨#[]⟩⟩]
def tb : List Nd := [⟨⟨#[99]⟩, 1, 7, 0, ⟨#[]⟩⟩, ⟨⟨#[99, 47, 120]⟩, 2, 0, 0, ⟨#[49]⟩⟩]
theorem ta_same : prtL ⟨#[97]⟩ ta = prtL ⟨#[99]⟩ tb := eq_of_beq (show (prtL ⟨#[97]⟩ ta == prtL ⟨#[99]⟩ tb) = true by kernel_rfl)
theorem ta_other : ((prtL ⟨#[97]⟩ ta).1.1 == (prtL ⟨#[98]⟩ ta).1.1) = false := by kernel_rfl
theorem ta_like : likeL ta ⟨#[97]⟩ tb ⟨#[99]⟩ = true := by kernel_rfl
theorem ta_is : (prtL ⟨#[97]⟩ ta).2 = true := by kernel_rfl
theorem ta_mt : MT ta := by
  refine ⟨by decide, ?_, ?_, ?_, by decide, ?_⟩ <;> (intro n hn; simp only [ta, List.mem_cons, List.not_mem_nil, or_false] at hn; rcases hn with rfl | rfl | rfl <;> first | decide | kernel_rfl)
theorem tb_mt : MT tb := by
  refine ⟨by decide, ?_, ?_, ?_, by decide, ?_⟩ <;> (intro n hn; simp only [tb, List.mem_cons, List.not_mem_nil, or_false] at hn; rcases hn with rfl | rfl <;> first | decide | kernel_rfl)
theorem MT.few {t : List Nd} (h : MT t) : FewN t := fun k m hm => ⟨by have := h.path m (List.mem_of_getElem? hm); omega, by have := h.data m (List.mem_of_getElem? hm); omega⟩

set_option maxHeartbeats 8000000 in
theorem awake_any (w : World) : Calls Tryd.prog 7 #[] w fun e w' => e = .returned (.bool true) ∧ Below w.heap.size w w' := by
  obtain ⟨W1, hW1⟩ : ∃ W1, W1 = (w.alloc (.cells #[.string ⟨#[97]⟩, .int .i64 1, .int .i64 0, .int .i64 0, .string ⟨#[]⟩, .string ⟨#[97, 47, 120]⟩, .int .i64 2, .int .i64 0, .int .i64 0, .string ⟨#[49]⟩, .string ⟨#[98]⟩, .int .i64 1, .int .i64 0, .int .i64 0, .string ⟨#[]⟩] 34)) := ⟨_, rfl⟩
  have hOa : W1.ownsRow w.heap.size 34 5 (.slice (some ⟨w.heap.size, 0, none⟩) 3 3) 3 (cellsN ta) := by
    rw [hW1]
    exact World.ownsRow_lit w #[.string ⟨#[97]⟩, .int .i64 1, .int .i64 0, .int .i64 0, .string ⟨#[]⟩, .string ⟨#[97, 47, 120]⟩, .int .i64 2, .int .i64 0, .int .i64 0, .string ⟨#[49]⟩, .string ⟨#[98]⟩, .int .i64 1, .int .i64 0, .int .i64 0, .string ⟨#[]⟩] 3 (Nat.le_refl _) (by decide) rfl
  have hB1 : Below w.heap.size w W1 := by rw [hW1]; exact (Below.refl _ w).alloc (Nat.le_refl _) _
  have hS1 : W1.heap.size = w.heap.size + 1 := by rw [hW1]; simp
  obtain ⟨W2, hW2⟩ : ∃ W2, W2 = W1.alloc (.cells #[.string ⟨#[99]⟩, .int .i64 1, .int .i64 7, .int .i64 0, .string ⟨#[]⟩, .string ⟨#[99, 47, 120]⟩, .int .i64 2, .int .i64 0, .int .i64 0, .string ⟨#[49]⟩] 34) := ⟨_, rfl⟩
  have hOb : W2.ownsRow w.heap.size 34 5 (.slice (some ⟨w.heap.size + 1, 0, none⟩) 2 2) 2 (cellsN tb) := by
    have h := World.ownsRow_lit W1 (e := 34) (size := 5) #[.string ⟨#[99]⟩, .int .i64 1, .int .i64 7, .int .i64 0, .string ⟨#[]⟩, .string ⟨#[99, 47, 120]⟩, .int .i64 2, .int .i64 0, .int .i64 0, .string ⟨#[49]⟩] 2 hB1.size (by decide) rfl
    rw [hS1, ← hW2] at h
    exact h
  have hB2 : Below w.heap.size w W2 := by rw [hW2]; exact hB1.alloc hB1.size _
  have hRa : RdN W2 W2.heap.size (some ⟨w.heap.size, 0, none⟩) ta := (RdN.own hOa).step (by rw [hW2]; exact (Below.refl _ W1).alloc (Nat.le_refl _) _)
  have hRb : RdN W2 W2.heap.size (some ⟨w.heap.size + 1, 0, none⟩) tb := RdN.own hOb
  have h1 := ta_same
  have h2 := ta_other
  have h3 := ta_is
  have HA := hide (show ∀ (p : ByteArray) (W : World), Below W2.heap.size W2 W → Calls Tryd.prog 9 #[.slice (some ⟨w.heap.size, 0, none⟩) 3 3, .string p] W fun e w' => e = .returned (.tuple #[.agg #[.int .u64 ((prtL p ta).1.1 : Nat), .int .u64 ((prtL p ta).1.2 : Nat)], .bool (prtL p ta).2]) ∧ Below W.heap.size W w' from fun p W h => mkOf_any _ ta 3 p W (hRa.step h) ta_mt)
  have HB := hide (show ∀ (p : ByteArray) (W : World), Below W2.heap.size W2 W → Calls Tryd.prog 9 #[.slice (some ⟨w.heap.size + 1, 0, none⟩) 2 2, .string p] W fun e w' => e = .returned (.tuple #[.agg #[.int .u64 ((prtL p tb).1.1 : Nat), .int .u64 ((prtL p tb).1.2 : Nat)], .bool (prtL p tb).2]) ∧ Below W.heap.size W w' from fun p W h => mkOf_any _ tb 2 p W (hRb.step h) tb_mt)
  have HL := hide (show ∀ (W : World), Below W2.heap.size W2 W → Calls Tryd.prog 14 #[.slice (some ⟨w.heap.size, 0, none⟩) 3 3, .string ⟨#[97]⟩, .slice (some ⟨w.heap.size + 1, 0, none⟩) 2 2, .string ⟨#[99]⟩] W fun e w' => e = .returned (.bool true) ∧ Below W.heap.size W w' from fun W h => by
    have := like_any _ _ ta tb 3 2 ⟨#[97]⟩ ⟨#[99]⟩ W (hRa.step h) (hRb.step h) ta_mt.few tb_mt.few (by decide) (by decide) (by decide) (by decide)
    rwa [ta_like] at this)
  have HX := hide (HA.out ⟨#[97]⟩)
  have HY := hide (HB.out ⟨#[99]⟩)
  have HZ := hide (HA.out ⟨#[98]⟩)
  rw [← h1] at HY
  generalize prtL ⟨#[97]⟩ ta = X at h2 h3 HX HY
  generalize prtL ⟨#[98]⟩ ta = Z at h2 HZ
  obtain ⟨⟨x1, x2⟩, ok⟩ := X
  obtain ⟨⟨z1, z2⟩, okz⟩ := Z
  simp only at h2 h3 HX HY HZ
  subst h3
  have g2 : (((x1 : Nat) : Int) == ((z1 : Nat) : Int)) = false := by
    rw [beq_eq_false_iff_ne] at h2 ⊢
    omega
  have HB2 := hide hB2
  clear h1 h2 hOa hOb hB1 hS1 hRa hRb HA HB hB2
  go_enter Tryd.func7, Tryd.ntmps7
  go_wp2_with fail
  rw [← hW1, ← hW2]
  refine (HX.out W2 (Below.refl _ _)).mono ?_
  rintro e w3 ⟨rfl, hb3⟩
  have r3 := World.alloc_heap_new w3 (Obj.cells #[.int .u64 (x1 : Nat), .int .u64 (x2 : Nat)] 28)
  have hc3 := hb3.alloc hb3.size (.cells #[.int .u64 (x1 : Nat), .int .u64 (x2 : Nat)] 28)
  have HY3 := hide (HY.out _ hc3)
  clear HX HY
  go_wp2_with fail
  refine HY3.out.mono ?_
  rintro e w4 ⟨rfl, hb4⟩
  have r4 := (hb4.block w3.heap.size (by simp)).trans r3
  have s4 := (Below.heap_alloc w4 (.cells #[.int .u64 (x1 : Nat), .int .u64 (x2 : Nat)] 28) _ (Array.getElem?_eq_some_iff.1 r4).1).trans r4
  have t4 := World.alloc_heap_new w4 (Obj.cells #[.int .u64 (x1 : Nat), .int .u64 (x2 : Nat)] 28)
  have hc4 := (hc3.trans (hb4.mono hc3.size)).alloc (hc3.trans (hb4.mono hc3.size)).size (.cells #[.int .u64 (x1 : Nat), .int .u64 (x2 : Nat)] 28)
  have HZ4 := hide (HZ.out _ hc4)
  clear HZ HY3 r3 r4 hb3 hb4 hc3
  go_wp2_with fail
  refine HZ4.out.mono ?_
  rintro e w5 ⟨rfl, hb5⟩
  have s5 := (hb5.block w3.heap.size (Array.getElem?_eq_some_iff.1 s4).1).trans s4
  have t5 := (hb5.block w4.heap.size (Array.getElem?_eq_some_iff.1 t4).1).trans t4
  have s6 := (Below.heap_alloc w5 (.cells #[.int .u64 (z1 : Nat), .int .u64 (z2 : Nat)] 28) _ (Array.getElem?_eq_some_iff.1 s5).1).trans s5
  have t6 := (Below.heap_alloc w5 (.cells #[.int .u64 (z1 : Nat), .int .u64 (z2 : Nat)] 28) _ (Array.getElem?_eq_some_iff.1 t5).1).trans t5
  have u6 := World.alloc_heap_new w5 (Obj.cells #[.int .u64 (z1 : Nat), .int .u64 (z2 : Nat)] 28)
  have hc6 := (hc4.trans (hb5.mono hc4.size)).alloc (hc4.trans (hb5.mono hc4.size)).size (.cells #[.int .u64 (z1 : Nat), .int .u64 (z2 : Nat)] 28)
  have a0 : (w5.alloc (.cells #[.int .u64 (z1 : Nat), .int .u64 (z2 : Nat)] 28)).cell? ⟨w3.heap.size, 0, none⟩ = some (.int .u64 (x1 : Nat)) := cell_of_row _ _ _ _ _ _ s6
  have a1 : (w5.alloc (.cells #[.int .u64 (z1 : Nat), .int .u64 (z2 : Nat)] 28)).cell? ⟨w3.heap.size, 1, none⟩ = some (.int .u64 (x2 : Nat)) := cell_of_row _ _ _ _ _ _ s6
  have b0 : (w5.alloc (.cells #[.int .u64 (z1 : Nat), .int .u64 (z2 : Nat)] 28)).cell? ⟨w4.heap.size, 0, none⟩ = some (.int .u64 (x1 : Nat)) := cell_of_row _ _ _ _ _ _ t6
  have b1 : (w5.alloc (.cells #[.int .u64 (z1 : Nat), .int .u64 (z2 : Nat)] 28)).cell? ⟨w4.heap.size, 1, none⟩ = some (.int .u64 (x2 : Nat)) := cell_of_row _ _ _ _ _ _ t6
  have d0 : (w5.alloc (.cells #[.int .u64 (z1 : Nat), .int .u64 (z2 : Nat)] 28)).cell? ⟨w5.heap.size, 0, none⟩ = some (.int .u64 (z1 : Nat)) := cell_of_row _ _ _ _ _ _ u6
  have d1 : (w5.alloc (.cells #[.int .u64 (z1 : Nat), .int .u64 (z2 : Nat)] 28)).cell? ⟨w5.heap.size, 1, none⟩ = some (.int .u64 (z2 : Nat)) := cell_of_row _ _ _ _ _ _ u6
  have HL6 := hide (HL.out _ hc6)
  have HB6 := hide (HB2.out.trans (hc6.mono HB2.out.size))
  clear HZ4 HL HB2 s4 t4 hc4 s5 t5 s6 t6 u6 hb5 hc6 hW1 hW2
  go_wp2_with fail
  refine HL6.out.mono ?_
  rintro e w7 ⟨rfl, hb7⟩
  have HB7 := hide (HB6.out.trans (hb7.mono HB6.out.size))
  clear HL6 hb7 HB6
  go_wp2_with fail
  exact bodyPost_ret (results_tmp rfl _ _ _) rfl ⟨rfl, HB7.out⟩
end Go.Proofs.YtbklgijndjpgoaaDoor
