/-
  journal.word; what the library's numbers rest on: its table of powers of ten, and its two errors.
-/
import Derived.Test.YtggdndmjfbiaiaaDoorBase
import Derived.Test.YtggdndmjfbiaiaaDoorBytes
import Derived.Test.YtggdndmjfbiaiaaDoorJnMath
import Derived.Lib.LaidTab
namespace Go.Proofs.YtggdndmjfbiaiaaDoor
open Go.RowKit
set_option maxRecDepth 100000

/-- The table lies in block 0, the errors in blocks 2 and 3. -/
structure Tabs (w : World) : Prop where
  p10 : Lib.TabIs Tryd.prog w "internal/strconv.uint64pow10" .u64 Lib.pow10Tab
  es : ∃ ev, w.cell? ⟨2, 0, none⟩ = some ev ∧ (ev = .nilIface ∨ ∃ te pe, ev = .iface te pe)
  er : ∃ ev, w.cell? ⟨3, 0, none⟩ = some ev ∧ (ev = .nilIface ∨ ∃ te pe, ev = .iface te pe)
theorem pow10_at : Tryd.prog.globalNamed "internal/strconv.uint64pow10" = some 0 := by kernel_rfl
theorem var_keep {w w' : World} {B g : Nat} {n : String} {cs : Array Value} (h : w.var? Tryd.prog n = some cs) (hg : Tryd.prog.globalNamed n = some g) (hb : Below B w w') (hB : g < B) : w'.var? Tryd.prog n = some cs := by
  unfold World.var? at h ⊢
  rw [hg] at h ⊢
  simp only [Option.bind_some] at h ⊢
  have hlt : g < w.heap.size := by
    cases hh : w.heap[g]? with
    | none => rw [hh] at h; cases h
    | some o => exact (Array.getElem?_eq_some_iff.1 hh).1
  rw [hb.block g hB]
  exact h
theorem Tabs.lt {w : World} (h : Tabs w) : 3 < w.heap.size := by
  obtain ⟨ev, h1, _⟩ := h.er
  exact cell_lt h1
theorem Tabs.below {w w' : World} (h : Tabs w) (hb : Below w.heap.size w w') : Tabs w' := by
  have := h.lt
  obtain ⟨e1, h1, k1⟩ := h.es
  obtain ⟨e2, h2, k2⟩ := h.er
  exact ⟨var_keep h.p10 pow10_at hb (by omega), ⟨e1, (hb.cell (p := ⟨2, 0, none⟩) (by show 2 < w.heap.size; omega)).trans h1, k1⟩, ⟨e2, (hb.cell (p := ⟨3, 0, none⟩) (by show 3 < w.heap.size; omega)).trans h2, k2⟩⟩

/-- A kind's word, as the program has it. -/
def wordB (k : Int) : ByteArray := ⟨(wordJ k).toArray⟩
theorem wordB_toL (k : Int) : toL (wordB k) = wordJ k := by unfold wordB toL; simp
set_option maxHeartbeats 1000000 in
theorem word_any (k : Int) (w : World) :
    Calls Tryd.prog 16 #[.int .i64 k] w fun e w' => e = .returned (.string (wordB k)) ∧ w' = w := by
  by_cases h1 : 1 ≤ k ∧ k ≤ 4
  · have : k = 1 ∨ k = 2 ∨ k = 3 ∨ k = 4 := by omega
    clear h1
    rcases this with rfl | rfl | rfl | rfl
    all_goals
      go_enter Tryd.func16, Tryd.ntmps16
      go_wp2_with fail
      exact bodyPost_ret (results_tmp rfl _ _ _) rfl ⟨rfl, rfl⟩
  · have HE := hide (show wordB k = ⟨#[]⟩ by unfold wordB; rw [wordJ_out (by omega)])
    have e1 : (k == 1) = false := by rw [beq_eq_false_iff_ne]; omega
    have e2 : (k == 2) = false := by rw [beq_eq_false_iff_ne]; omega
    have e3 : (k == 3) = false := by rw [beq_eq_false_iff_ne]; omega
    have e4 : (k == 4) = false := by rw [beq_eq_false_iff_ne]; omega
    clear h1
    go_enter Tryd.func16, Tryd.ntmps16
    go_wp2_with fail
    exact bodyPost_ret (results_tmp rfl _ _ _) rfl ⟨by rw [HE.out]; rfl, rfl⟩
end Go.Proofs.YtggdndmjfbiaiaaDoor
