/-
  What one byte more reaches: what the method step answers.
-/
import Derived.Test.YtmdlefagkfkenabGlobReach
namespace Go.Proofs.Ytmdlefagkfkenab
open Go.RowKit
attribute [local go_sem] World.setCell_drewN' World.alloc_drewN'

/-- One part of a step. -/
def stepP (p : GPart) (r : Nat → Bool) (b k : Nat) (s : (Nat → Bool) × Bool) : (Nat → Bool) × Bool :=
  let hit := r k && p.2 b
  let nx := if hit then (if p.1 then putR s.1 k else putR s.1 (k + 1)) else s.1
  (if nx k && p.1 then putR nx (k + 1) else nx, s.2 || hit)
/-- The first k parts of a step. -/
def stepN (l : List GPart) (r : Nat → Bool) (b : Nat) : Nat → (Nat → Bool) × Bool
  | 0 => (noneR, false)
  | k + 1 => match l[k]? with
    | none => stepN l r b k
    | some p => stepP p r b k (stepN l r b k)

theorem stepN_succ {l : List GPart} {r : Nat → Bool} {b k : Nat} {p : GPart} (h : l[k]? = some p) : stepN l r b (k + 1) = stepP p r b k (stepN l r b k) := by
  rw [stepN, h]

set_option maxRecDepth 100000 in
set_option maxHeartbeats 4000000 in
theorem step_any (bp ap : Nat) (l : List GPart) (r : Nat → Bool) (b : Nat) (w : World) (hb : (b : Int) < 256) (hl : l.length ≤ 64) (hbp : bp < w.heap.size) (hap : ap < w.heap.size)
    (hp : w.heap[bp]? = some (.cells (patV l) 34 (0, 0))) (ha : w.heap[ap]? = some (.cells (reachV r) 42 (0, 0))) :
    Calls Try.prog 10 #[.pointer (some ⟨bp, 0, none⟩), .pointer (some ⟨ap, 0, none⟩), .int .u8 b] w fun e w' =>
      e = .returned (.tuple #[.agg (reachV (stepN l r b l.length).1), .bool (stepN l r b l.length).2]) ∧ Below w.heap.size w w' := by
  have hz := zero_reach
  have HP := hide hp
  have HA := hide ha
  have n00 := pat_n hp
  clear hp ha
  go_enter Try.func10, Try.ntmps10
  go_wp2
  go_loopg [9, 16] l.length (fun g sm i wr => ∃ k : Nat, i = .int .i64 k ∧ sm = .bool (stepN l r b k).2 ∧ k + g = l.length ∧ RMine w wr (stepN l r b k).1)
  case atStart =>
    exact ⟨0, rfl, rfl, by omega, ⟨((Below.refl _ _).alloc (Nat.le_refl _) _).alloc (by simp) _, by simp, heap_alloc2_old _ _ _, heap_alloc2_new _ _ _⟩⟩
  case round =>
    obtain ⟨k, rfl, rfl, hkg, hM⟩ := hrel
    have HG := hide hkg
    clear n00
    cases gk with
    | zero =>
      obtain rfl : k = l.length := by omega
      obtain ⟨nx, h1⟩ : ∃ nx, (stepN l r b l.length).1 = nx := ⟨_, rfl⟩
      obtain ⟨sm, h2⟩ : ∃ sm, (stepN l r b l.length).2 = sm := ⟨_, rfl⟩
      rw [h1] at hM
      rw [h2]
      have H1 := hide h1
      have H2 := hide h2
      clear h1 h2
      have hst := store_reach noneR nx w.heap.size wr hM.out
      have hld2 := load_reach nx w.heap.size (wr.setRow w.heap.size (reachV nx)) (setRow_heap _ _ _ _ _ _ hM.out)
      have hat := hM.at_
      have hsz : (Try.prog.info? 42).map (·.size) = some (reachV nx).size := by rw [info_reach, reachV_size]
      have hps := reachV_size nx
      clear hkg hz
      go_wp2_with (with_reducible refine wpList_load_row rfl 42 (.tmp 8) rfl (w.heap.size + 1) rfl 42 _ (0, 0) _ hat Try.underlying42 rfl hsz ?_)
      refine bodyPost_ret (v := .tuple #[.agg (reachV nx), .bool sm]) (by simp [results, Try.results10, asAddr, hld2]) rfl ⟨by rw [H1.out, H2.out], ?_⟩
      exact below_setRow hM.below (Nat.le_refl _) _
    | succ g =>
      have hkl : k < l.length := by omega
      obtain ⟨p, hk⟩ : ∃ p, l[k]? = some p := ⟨_, List.getElem?_eq_getElem hkl⟩
      have hS := stepN_succ (r := r) (b := b) hk
      have hpr : wr.heap[bp]? = some (.cells (patV l) 34 (0, 0)) := (hM.below.block bp hbp).trans HP.out
      have har : wr.heap[ap]? = some (.cells (reachV r) 42 (0, 0)) := (hM.below.block ap hap).trans HA.out
      have m0 := pat_part hpr k 0 p (by omega) (by omega) hk
      have m1 := pat_part hpr k 1 p (by omega) (by omega) hk
      have m2 := pat_part hpr k 2 p (by omega) (by omega) hk
      have m3 := pat_part hpr k 3 p (by omega) (by omega) hk
      have m4 := pat_part hpr k 4 p (by omega) (by omega) hk
      obtain ⟨m, P⟩ := p
      simp only [Nat.add_zero] at m0
      change _ = some (Value.bool m) at m0
      change _ = some (Value.int .u64 (wd P 0 : Nat)) at m1
      change _ = some (Value.int .u64 (wd P 1 : Nat)) at m2
      change _ = some (Value.int .u64 (wd P 2 : Nat)) at m3
      change _ = some (Value.int .u64 (wd P 3 : Nat)) at m4
      have a0 : wr.cell? ⟨ap, k, none⟩ = some (.bool (r k)) := by rw [cell_of_row _ _ _ _ _ _ har, reachV_get _ _ (by omega)]
      have hz1 := hM.size
      have hbp' : bp < wr.heap.size := Nat.lt_of_lt_of_le hbp hM.below.size
      have hap' : ap < wr.heap.size := Nat.lt_of_lt_of_le hap hM.below.size
      have hk1 : (k : Int) < l.length := by omega
      have hk2 : (k : Int) < 64 := by omega
      have hk0 : k < 64 := by omega
      obtain ⟨nx, h1⟩ : ∃ nx, (stepN l r b k).1 = nx := ⟨_, rfl⟩
      obtain ⟨sm, h2⟩ : ∃ sm, (stepN l r b k).2 = sm := ⟨_, rfl⟩
      rw [h1] at hM
      rw [h2]
      unfold stepP at hS
      rw [h1, h2] at hS
      clear h1 h2 hpr har hk hkg hz
      have HS := hide hS
      clear hS
      have x0 := hM.cx k (by omega)
      have x1 := hM.cx (k + 1) (by omega)
      have fz := hM.fz
      have nbp : bp ≠ w.heap.size + 1 := by omega
      rcases Bool.eq_false_or_eq_true (r k) with hrk | hrk
      · rcases Bool.eq_false_or_eq_true (P b) with hPb | hPb
        · rw [hrk] at a0
          cases m with
          | true =>
            have hS' : stepN l r b (k + 1) = (putR (putR nx k) (k + 1), true) := by rw [HS.out, hrk]; simp [hPb, putR]
            clear hrk HS
            have HS := hide hS'
            clear hS'
            go_wp2_with (go_at_call 16; refine (has_any P b hb _).mono ?_; rintro e w1 ⟨rfl, hb1⟩; rw [hPb]; have hM1 := hM.after hb1; have y0 := hM1.cx k (by omega); have y1 := hM1.cx (k + 1) (by omega); have fz1 := hM1.fz; obtain ⟨hc, hf⟩ := bcell hb1; have hz2 := hM1.size)
            go_roundg g
            case rel => exact ⟨k + 1, by go_num, by rw [HS.out], by have := HG.out; omega, by rw [HS.out]; exact (hM1.put k (by omega)).put (k + 1) (by omega)⟩
            case measure => omega
          | false =>
            have hS' : stepN l r b (k + 1) = (putR nx (k + 1), true) := by rw [HS.out, hrk]; simp [hPb]
            clear hrk HS
            have HS := hide hS'
            clear hS'
            rcases Bool.eq_false_or_eq_true (nx k) with hn | hn
            · go_wp2_with (go_at_call 16; refine (has_any P b hb _).mono ?_; rintro e w1 ⟨rfl, hb1⟩; rw [hPb]; have hM1 := hM.after hb1; have y0 := hM1.cx k (by omega); have y1 := hM1.cx (k + 1) (by omega); have fz1 := hM1.fz; obtain ⟨hc, hf⟩ := bcell hb1; have hz2 := hM1.size; rw [hn] at y0)
              go_roundg g
              case rel => exact ⟨k + 1, by go_num, by rw [HS.out], by have := HG.out; omega, by rw [HS.out]; exact hM1.put (k + 1) (by omega)⟩
              case measure => omega
            · go_wp2_with (go_at_call 16; refine (has_any P b hb _).mono ?_; rintro e w1 ⟨rfl, hb1⟩; rw [hPb]; have hM1 := hM.after hb1; have y0 := hM1.cx k (by omega); have y1 := hM1.cx (k + 1) (by omega); have fz1 := hM1.fz; obtain ⟨hc, hf⟩ := bcell hb1; have hz2 := hM1.size; rw [hn] at y0)
              go_roundg g
              case rel => exact ⟨k + 1, by go_num, by rw [HS.out], by have := HG.out; omega, by rw [HS.out]; exact hM1.put (k + 1) (by omega)⟩
              case measure => omega
        · rw [hrk] at a0
          have hS' : stepN l r b (k + 1) = (if nx k && m then putR nx (k + 1) else nx, sm) := by rw [HS.out, hrk]; simp [hPb]
          clear hrk HS
          rcases Bool.eq_false_or_eq_true (nx k) with hn | hn
          · rw [hn] at x0 hS'
            cases m with
            | true =>
              have HS := hide hS'
              clear hS'
              go_wp2_with (go_at_call 16; refine (has_any P b hb _).mono ?_; rintro e w1 ⟨rfl, hb1⟩; rw [hPb]; have hM1 := hM.after hb1; have y0 := hM1.cx k (by omega); have y1 := hM1.cx (k + 1) (by omega); have fz1 := hM1.fz; obtain ⟨hc, hf⟩ := bcell hb1; have hz2 := hM1.size; rw [hn] at y0; clear hn)
              go_roundg g
              case rel => exact ⟨k + 1, by go_num, by rw [HS.out], by have := HG.out; omega, by rw [HS.out]; exact hM1.put (k + 1) (by omega)⟩
              case measure => omega
            | false =>
              have HS := hide hS'
              clear hS'
              go_wp2_with (go_at_call 16; refine (has_any P b hb _).mono ?_; rintro e w1 ⟨rfl, hb1⟩; rw [hPb]; have hM1 := hM.after hb1; have y0 := hM1.cx k (by omega); have y1 := hM1.cx (k + 1) (by omega); have fz1 := hM1.fz; obtain ⟨hc, hf⟩ := bcell hb1; have hz2 := hM1.size; rw [hn] at y0; clear hn)
              go_roundg g
              case rel => exact ⟨k + 1, by go_num, by rw [HS.out], by have := HG.out; omega, by rw [HS.out]; exact hM1⟩
              case measure => omega
          · rw [hn] at x0 hS'
            have HS := hide hS'
            clear hS'
            go_wp2_with (go_at_call 16; refine (has_any P b hb _).mono ?_; rintro e w1 ⟨rfl, hb1⟩; rw [hPb]; have hM1 := hM.after hb1; have y0 := hM1.cx k (by omega); have y1 := hM1.cx (k + 1) (by omega); have fz1 := hM1.fz; obtain ⟨hc, hf⟩ := bcell hb1; have hz2 := hM1.size; rw [hn] at y0; clear hn)
            go_roundg g
            case rel => exact ⟨k + 1, by go_num, by rw [HS.out], by have := HG.out; omega, by rw [HS.out]; exact hM1⟩
            case measure => omega
      · rw [hrk] at a0
        have hS' : stepN l r b (k + 1) = (if nx k && m then putR nx (k + 1) else nx, sm) := by rw [HS.out, hrk]; simp
        clear hrk HS
        rcases Bool.eq_false_or_eq_true (nx k) with hn | hn
        · rw [hn] at x0 hS'
          clear hn
          cases m with
          | true =>
            have HS := hide hS'
            clear hS'
            go_wp2
            go_roundg g
            case rel => exact ⟨k + 1, by go_num, by rw [HS.out], by have := HG.out; omega, by rw [HS.out]; exact hM.put (k + 1) (by omega)⟩
            case measure => omega
          | false =>
            have HS := hide hS'
            clear hS'
            go_wp2
            go_roundg g
            case rel => exact ⟨k + 1, by go_num, by rw [HS.out], by have := HG.out; omega, by rw [HS.out]; exact hM⟩
            case measure => omega
        · rw [hn] at x0 hS'
          clear hn
          have HS := hide hS'
          clear hS'
          go_wp2
          go_roundg g
          case rel => exact ⟨k + 1, by go_num, by rw [HS.out], by have := HG.out; omega, by rw [HS.out]; exact hM⟩
          case measure => omega
end Go.Proofs.Ytmdlefagkfkenab
