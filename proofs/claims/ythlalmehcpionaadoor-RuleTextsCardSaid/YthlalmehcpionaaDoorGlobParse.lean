/-
  What glob.Parse answers.
-/
import Derived.Test.YthlalmehcpionaaDoorGlobB
import Derived.Test.YthlalmehcpionaaDoorGlobRead
import Derived.Test.YthlalmehcpionaaDoorGlobFirstAll
namespace Go.Proofs.YthlalmehcpionaaDoor
open Go.RowKit
attribute [local go_sem] World.setCell_drewN' World.alloc_drewN'

/-- A pattern that was read, and how. -/
def parseV (s : ByteArray) : Value :=
  if 64 < s.size then .tuple #[.agg (patV []), .int .i64 5] else
  match parseOf s.data.toList with
  | none => .tuple #[.agg (patV []), .int .i64 3]
  | some l => .tuple #[.agg (patV l), .int .i64 0]

theorem load_pat (l : List GPart) (g : Nat) (W : World) (h : W.heap[g]? = some (.cells (patV l) 50 (0, 0))) :
    Sem.run Tryd.prog (loadVar 50 ⟨g, 0, none⟩) W = .ok (.agg (patV l)) W := by
  exact run_loadVar_row W g _ _ _ _ _ h Tryd.underlying50 rfl (by rw [info_pat, patV_size])

set_option maxRecDepth 100000 in
set_option maxHeartbeats 1000000 in
theorem parse_long (s : ByteArray) (w : World) (h0 : (64 : Int) < s.size) :
    Calls Tryd.prog 43 #[.string s] w fun e w' => e = .returned (.tuple #[.agg (patV []), .int .i64 5]) ∧ Below w.heap.size w w' := by
  have hz := zero_pat
  have hb := build_pat
  have hst := store_pat [] [] w.heap.size (w.alloc (Obj.cells (patV []) 50)) (heap_alloc_new _ _)
  have hld := load_pat [] w.heap.size ((w.alloc (Obj.cells (patV []) 50)).setRow w.heap.size (patV [])) (setRow_heap _ _ _ _ _ _ (heap_alloc_new _ _))
  go_enter Tryd.func43, Tryd.ntmps43
  go_wp2
  refine bodyPost_ret (v := .tuple #[.agg (patV []), .int .i64 5]) (by simp [results, Tryd.results43, asAddr, hld]) rfl ⟨rfl, ?_⟩
  exact below_setRow ((Below.refl _ _).alloc (Nat.le_refl _) _) (Nat.le_refl _) _

theorem isEmpty_of {t : ByteArray} (h : t.toList.isEmpty = true) : t.data.toList = [] := by
  rw [Lib.toList_data] at h
  simpa using h
theorem size_pos {t : ByteArray} (h : ¬ t.toList.isEmpty = true) : 0 < t.size := by
  rw [Lib.toList_data] at h
  rw [Lib.size_eq]
  cases ht : t.data.toList with
  | nil => rw [ht] at h; exact absurd rfl h
  | cons c r => simp

set_option maxRecDepth 100000 in
set_option maxHeartbeats 1000000 in
theorem parse_loop (s : ByteArray) (w : World) (h0 : ¬ (64 : Int) < s.size) :
    Calls Tryd.prog 43 #[.string s] w fun e w' => e = .returned (match parseOf s.data.toList with
      | none => .tuple #[.agg (patV []), .int .i64 3]
      | some l => .tuple #[.agg (patV l), .int .i64 0]) ∧ Below w.heap.size w w' := by
  have hz := zero_pat
  have hb := build_pat
  obtain ⟨R, hR⟩ : ∃ R, parseOf s.data.toList = R := ⟨_, rfl⟩
  rw [hR]
  have HR := hide hR
  clear hR
  go_enter Tryd.func43, Tryd.ntmps43
  go_wp2
  go_loopg [0] s.size (fun g s0 wr => ∃ (t : ByteArray) (l : List GPart), s0 = .string t ∧ l.length + t.size ≤ 64 ∧ t.size ≤ g ∧ Hid ((parseOf t.data.toList).map (l ++ ·) = R) ∧ PMine w wr l)
  case atStart => exact ⟨s, [], rfl, by simp; omega, Nat.le_refl _, by rw [HR.out]; cases R <;> exact hide rfl, PMine.start w⟩
  case round =>
    obtain ⟨t, l, rfl, hl, hg, HT, hM⟩ := hrel
    by_cases he : t.toList.isEmpty = true
    · have hR : R = some l := by
        have := HT.out
        rw [isEmpty_of he, parseOf_nil] at this
        simpa using this.symm
      clear HT hz
      subst hR
      have hst := store_pat [] l w.heap.size wr hM.out
      have hld2 := load_pat l w.heap.size (wr.setRow w.heap.size (patV l)) (setRow_heap _ _ _ _ _ _ hM.out)
      have hsz : (Tryd.prog.info? 50).map (·.size) = some (patV l).size := by rw [info_pat, patV_size]
      have hpat := hM.pat
      go_wp2
      refine wp_load_row 50 (.tmp 4) rfl (w.heap.size + 1) rfl 50 _ (0, 0) _ hpat Tryd.underlying50 rfl hsz ?_
      rename_i hK
      refine hK _ _ ?_
      clear hK hpat hsz
      have hps := patV_size l
      go_wp2
      refine bodyPost_ret (v := .tuple #[.agg (patV l), .int .i64 0]) (by simp [results, Tryd.results43, asAddr, hld2]) rfl ⟨rfl, ?_⟩
      exact below_setRow hM.below (Nat.le_refl _) _
    · have he' : t.toList.isEmpty = false := by simpa using he
      have hts : 0 < t.size := size_pos he
      have hnil : t.data.toList ≠ [] := fun h => by rw [Lib.size_eq, h] at hts; simp at hts
      clear he
      go_wp2_with fail
      refine (first_all t _ hts (by omega)).mono ?_
      rintro e w1 ⟨rfl, hb1⟩
      have hM1 := hM.after hb1
      have hz1 := hM1.size
      cases hr : firstOf t.data.toList with
      | none =>
        have hR : R = none := by
          have := HT.out
          rw [parseOf_bad hnil hr] at this
          simpa using this.symm
        clear HT hr
        subst hR
        have hM2 := hM1.alloc (Obj.cells part0 47)
        have hst := store_pat [] [] w.heap.size _ hM2.out
        have hld2 := load_pat [] w.heap.size _ (setRow_heap _ _ _ (patV []) _ _ hM2.out)
        unfold part0 at hst hld2
        unfold readV part0
        go_wp2
        refine bodyPost_ret (v := .tuple #[.agg (patV []), .int .i64 3]) (by simp [results, Tryd.results43, asAddr, hld2]) rfl ⟨rfl, ?_⟩
        exact below_setRow hM2.below (Nat.le_refl _) _
      | some pn =>
        obtain ⟨⟨m, P⟩, n⟩ := pn
        have hn := firstOf_le _ _ _ hr
        rw [← Lib.size_eq] at hn
        have hn1 : (1 : Int) ≤ n := by omega
        have hn2 : (n : Int) ≤ t.size := by omega
        have hn3 : ((n : Int) == 0) = false := by rw [beq_eq_false_iff_ne]; omega
        have hl' : (l.length : Int) < 64 := by omega
        have HS := hide (show (parseOf (t.extract n t.size).data.toList).map ((l ++ [(m, P)]) ++ ·) = R by
          rw [extract_end, ← HT.out, parseOf_step hr]
          cases parseOf (t.data.toList.drop n) <;> simp)
        have n0 := hM1.n0
        have x0 := hM1.cx (1 + l.length * 5) (by omega)
        have x1 := hM1.cx (1 + l.length * 5 + 1) (by omega)
        have x2 := hM1.cx (1 + l.length * 5 + 2) (by omega)
        have x3 := hM1.cx (1 + l.length * 5 + 3) (by omega)
        have x4 := hM1.cx (1 + l.length * 5 + 4) (by omega)
        have fz := hM1.fz
        clear hr HT hb hz
        unfold readV partV
        go_wp2
        have hsz : (t.extract n t.size).size = t.size - n := by simp [ByteArray.size_extract]
        go_roundg (gk - n)
        case rel => exact ⟨t.extract n t.size, l ++ [(m, P)], rfl, by rw [hsz]; simp; omega, by rw [hsz]; omega, HS, (hM1.put m P (by omega)).alloc _⟩
        case measure => omega

theorem parse_any (s : ByteArray) (w : World) :
    Calls Tryd.prog 43 #[.string s] w fun e w' => e = .returned (parseV s) ∧ Below w.heap.size w w' := by
  unfold parseV
  by_cases h : 64 < s.size
  · rw [if_pos h]
    exact parse_long s w (by omega)
  · rw [if_neg h]
    exact parse_loop s w (by omega)
end Go.Proofs.YthlalmehcpionaaDoor
