/-
  Texts that belong together: GlobReach, GlobStep.
-/
import Derived.Test.YteoafohebgfjdaaGreatDoorAutoGlobPat
/-
  What a pattern's parts reach, as it lies in memory.
-/
namespace Go.Proofs.YteoafohebgfjdaaGreatDoor
open Go.RowKit

/-- 65 bools. -/
def reachV (r : Nat → Bool) : Array Value := Array.ofFn (n := 65) fun i => Value.bool (r i)
theorem reachV_size (r : Nat → Bool) : (reachV r).size = 65 := by simp [reachV]
theorem reachV_get (r : Nat → Bool) (i : Nat) (h : i < 65) : (reachV r)[i]? = some (.bool (r i)) := by
  unfold reachV
  rw [Array.getElem?_ofFn, dif_pos h]
def noneR : Nat → Bool := fun _ => false
def putR (r : Nat → Bool) (k : Nat) : Nat → Bool := fun i => r i || i == k
theorem reachV_put (r : Nat → Bool) (k : Nat) (hk : k < 65) : (reachV r).setIfInBounds k (.bool true) = reachV (putR r k) := by
  apply Array.ext_getElem?
  intro i
  rw [Array.getElem?_setIfInBounds]
  by_cases hi : i < 65
  · rw [reachV_get _ _ hi, reachV_get _ _ hi]
    unfold putR
    by_cases h : k = i
    · subst h; simp [reachV_size, hk]
    · have : ¬ i = k := fun e => h e.symm
      simp [h, this]
  · have e : ∀ r', (reachV r')[i]? = none := fun r' => Array.getElem?_eq_none (by rw [reachV_size]; omega)
    rw [e, e, if_neg (by omega)]

theorem zero_reach (w : World) : Sem.run Tryz.prog (zeroValue 156) w = .ok (.agg (reachV noneR)) w := by kernel_rfl
theorem info_reach : (Tryz.prog.info? 156).map (·.size) = some 65 := by kernel_rfl

theorem reachV_one (r : Nat → Bool) : ∀ v ∈ (reachV r).toList, v.oneCell' = true := by
  intro v hv
  unfold reachV at hv
  rw [Array.mem_toList_iff, Array.mem_ofFn] at hv
  obtain ⟨i, rfl⟩ := hv
  rfl
theorem store_reach (r r' : Nat → Bool) (g : Nat) (W : World) (h : W.heap[g]? = some (.cells (reachV r) 156 (0, 0))) :
    Sem.run Tryz.prog (storeCells ⟨g, 0, none⟩ (reachV r').toList) W = .ok () (W.setRow g (reachV r')) := by
  have e := run_storeCells_from (P := Tryz.prog) g 156 (reachV r').toList 0 (reachV r) W h (by simp [reachV_size]) (reachV_one r')
  simpa using e
theorem load_reach (r : Nat → Bool) (g : Nat) (W : World) (h : W.heap[g]? = some (.cells (reachV r) 156 (0, 0))) :
    Sem.run Tryz.prog (loadVar 156 ⟨g, 0, none⟩) W = .ok (.agg (reachV r)) W := by
  exact run_loadVar_row W g _ _ _ _ _ h Tryz.underlying156 rfl (by rw [info_reach, reachV_size])

/-- The call's own two blocks: the answer's, still empty, and what is reached. -/
structure RMine (w wr : World) (r : Nat → Bool) : Prop where
  below : Below w.heap.size w wr
  size : w.heap.size + 1 < wr.heap.size
  out : wr.heap[w.heap.size]? = some (.cells (reachV noneR) 156 (0, 0))
  at_ : wr.heap[w.heap.size + 1]? = some (.cells (reachV r) 156 (0, 0))

theorem RMine.after {w wr w1 : World} {r : Nat → Bool} (h : RMine w wr r) (hb : Below wr.heap.size wr w1) : RMine w w1 r :=
  ⟨h.below.trans (hb.mono h.below.size), Nat.lt_of_lt_of_le h.size hb.size, (hb.block _ (by have := h.size; omega)).trans h.out, (hb.block _ h.size).trans h.at_⟩
theorem RMine.put {w wr : World} {r : Nat → Bool} (h : RMine w wr r) (k : Nat) (hk : k < 65) : RMine w (wr.setCell ⟨w.heap.size + 1, k, none⟩ (.bool true)) (putR r k) := by
  refine ⟨h.below.setCell (by simp) _, by simpa [World.setCell] using h.size, ?_, ?_⟩
  · rw [heap_setCell_other _ _ _ _ (by simp)]
    exact h.out
  · have e := heap_setCell_same wr (w.heap.size + 1) k _ _ (.bool true) h.at_
    rw [reachV_put r k hk] at e
    exact e
theorem RMine.cx {w wr : World} {r : Nat → Bool} (h : RMine w wr r) (i : Nat) (hi : i < 65) : wr.cell? ⟨w.heap.size + 1, i, none⟩ = some (.bool (r i)) := by
  rw [cell_of_row _ _ _ _ _ _ h.at_, reachV_get _ _ hi]
theorem RMine.fz {w wr : World} {r : Nat → Bool} (h : RMine w wr r) (i : Nat) : wr.frozen? ⟨w.heap.size + 1, i, none⟩ = false := frozen_of_row _ _ _ _ _ h.at_

/-- How many parts at the head stand for any number of bytes. -/
def lead : List GPart → Nat
  | [] => 0
  | p :: r => if p.1 then lead r + 1 else 0
def leR (k : Nat) : Nat → Bool := fun i => decide (i ≤ k)
theorem leR_put (k : Nat) : putR (leR k) (k + 1) = leR (k + 1) := by
  funext i
  unfold putR leR
  by_cases h : i = k + 1
  · simp [h]
  · have : (i ≤ k + 1) ↔ (i ≤ k) := by omega
    simp [h, this]
theorem leR_zero : putR noneR 0 = leR 0 := by
  funext i
  unfold putR leR noneR
  by_cases h : i = 0 <;> simp [h]
theorem lead_of : ∀ (l : List GPart) (k : Nat), k ≤ l.length → (∀ j p, j < k → l[j]? = some p → p.1 = true) → (∀ p, l[k]? = some p → p.1 = false) → lead l = k
  | [], k, hk, _, _ => by simp at hk; subst hk; rfl
  | q :: r, 0, _, _, h2 => by
    have := h2 q rfl
    unfold lead; rw [this]; rfl
  | q :: r, k + 1, hk, h1, h2 => by
    have hq := h1 0 q (by omega) rfl
    unfold lead
    rw [hq, if_pos rfl, lead_of r k (by simpa using hk) (fun j p hj hp => h1 (j + 1) p (by omega) (by simpa using hp)) (fun p hp => h2 p (by simpa using hp))]

theorem pat_n {w : World} {bp : Nat} {l : List GPart} (h : w.heap[bp]? = some (.cells (patV l) 137 (0, 0))) : w.cell? ⟨bp, 0, none⟩ = some (.int .i64 (l.length : Nat)) := by
  rw [cell_of_row _ _ _ _ _ _ h, patV_get _ _ (by omega)]; rfl
theorem pat_part {w : World} {bp : Nat} {l : List GPart} (h : w.heap[bp]? = some (.cells (patV l) 137 (0, 0))) (k j : Nat) (p : GPart) (hk : k < 64) (hj : j < 5) (hp : l[k]? = some p) :
    w.cell? ⟨bp, 1 + k * 5 + j, none⟩ = some ((partV p.1 p.2)[j]?.getD undef) := by
  rw [cell_of_row _ _ _ _ _ _ h, patV_get _ _ (by omega)]
  unfold patC partC
  rw [if_neg (by omega), show (1 + k * 5 + j - 1) / 5 = k by omega, show (1 + k * 5 + j - 1) % 5 = j by omega, hp]

set_option maxRecDepth 100000 in
set_option maxHeartbeats 1000000 in
theorem start_any (bp : Nat) (l : List GPart) (w : World) (hl : l.length ≤ 64) (hbp : bp < w.heap.size) (hp : w.heap[bp]? = some (.cells (patV l) 137 (0, 0))) :
    Calls Tryz.prog 126 #[.pointer (some ⟨bp, 0, none⟩)] w fun e w' => e = .returned (.agg (reachV (leR (lead l)))) ∧ Below w.heap.size w w' := by
  have hz := zero_reach
  have HP := hide hp
  clear hp
  go_enter Tryz.func126, Tryz.ntmps126
  go_wp2
  go_loopg [4] l.length (fun g i wr => ∃ k : Nat, i = .int .i64 k ∧ k + g = l.length ∧ Hid (∀ j p, j < k → l[j]? = some p → p.1 = true) ∧ RMine w wr (leR k))
  case atStart =>
    refine ⟨0, rfl, by omega, hide (fun j p hj => by omega), ⟨((Below.refl _ _).alloc (Nat.le_refl _) _).alloc (by simp) _, by simp, heap_alloc2_old _ _ _, ?_⟩⟩
    rw [← leR_zero, ← reachV_put noneR 0 (by omega)]
    exact heap_alloc2_new _ _ _
  case round =>
    obtain ⟨k, rfl, hkg, HA, hM⟩ := hrel
    have HG := hide hkg
    have hpr : wr.heap[bp]? = some (.cells (patV l) 137 (0, 0)) := (hM.below.block bp hbp).trans HP.out
    have n0 := pat_n hpr
    by_cases hend : ∃ p, l[k]? = some p ∧ p.1 = true
    · obtain ⟨p, hk, hm⟩ := hend
      have hkl : k < l.length := (List.getElem?_eq_some_iff.1 hk).1
      have m0 := pat_part hpr k 0 p (by omega) (by omega) hk
      simp only [Nat.add_zero] at m0
      have m1 : wr.cell? ⟨bp, 1 + k * 5, none⟩ = some (.bool true) := by rw [m0, ← hm]; rfl
      have x1 := hM.cx (k + 1) (by omega)
      have fz := hM.fz
      have hk1 : (k : Int) < l.length := by omega
      have hk2 : (k : Int) < 64 := by omega
      have HA' := hide (show ∀ j q, j < k + 1 → l[j]? = some q → q.1 = true from fun j q hj hq => by
        by_cases e : j = k
        · subst e; rw [hk] at hq; cases hq; exact hm
        · exact HA.out j q (by omega) hq)
      clear m0 hk hm hkg hpr
      go_wp2
      go_roundg (gk - 1)
      case rel => exact ⟨k + 1, by go_num, by have := HG.out; omega, HA', by rw [← leR_put]; exact hM.put (k + 1) (by omega)⟩
      case measure => have := HG.out; omega
    · have hlead : lead l = k := lead_of l k (by omega) HA.out (fun p hp => by
        cases hm : p.1 with
        | false => rfl
        | true => exact absurd ⟨p, hp, hm⟩ hend)
      have HL := hide hlead
      have hst := store_reach noneR (leR k) w.heap.size wr hM.out
      have hld2 := load_reach (leR k) w.heap.size (wr.setRow w.heap.size (reachV (leR k))) (setRow_heap _ _ _ _ _ _ hM.out)
      have hat := hM.at_
      have hsz : (Tryz.prog.info? 156).map (·.size) = some (reachV (leR k)).size := by rw [info_reach, reachV_size]
      have hps := reachV_size (leR k)
      by_cases hkl : k < l.length
      · obtain ⟨p, hk⟩ : ∃ p, l[k]? = some p := ⟨_, List.getElem?_eq_getElem hkl⟩
        have hm : p.1 = false := by
          cases hm : p.1 with
          | false => rfl
          | true => exact absurd ⟨p, hk, hm⟩ hend
        have m0 := pat_part hpr k 0 p (by omega) (by omega) hk
        simp only [Nat.add_zero] at m0
        have m1 : wr.cell? ⟨bp, 1 + k * 5, none⟩ = some (.bool false) := by rw [m0, ← hm]; rfl
        have hk1 : (k : Int) < l.length := by omega
        have hk2 : (k : Int) < 64 := by omega
        clear m0 hk hm hkg hpr hlead hend
        go_wp2_with (with_reducible refine wpList_load_row rfl 156 (.tmp 3) rfl (w.heap.size + 1) rfl 156 _ (0, 0) _ hat Tryz.underlying156 rfl hsz ?_)
        refine bodyPost_ret (v := .agg (reachV (leR k))) (by simp [results, Tryz.results126, asAddr, hld2]) rfl ⟨by rw [HL.out], ?_⟩
        exact below_setRow hM.below (Nat.le_refl _) _
      · have hk1 : ¬ (k : Int) < l.length := by omega
        clear hkg hpr hlead hend
        go_wp2_with (with_reducible refine wpList_load_row rfl 156 (.tmp 3) rfl (w.heap.size + 1) rfl 156 _ (0, 0) _ hat Tryz.underlying156 rfl hsz ?_)
        refine bodyPost_ret (v := .agg (reachV (leR k))) (by simp [results, Tryz.results126, asAddr, hld2]) rfl ⟨by rw [HL.out], ?_⟩
        exact below_setRow hM.below (Nat.le_refl _) _
end Go.Proofs.YteoafohebgfjdaaGreatDoor
/-
  What one byte more reaches: what the method step answers.
-/
namespace Go.Proofs.YteoafohebgfjdaaGreatDoor
open Go.RowKit
attribute [local go_sem] World.setCell_drewN' World.alloc_drewN'

/-- One part of a step. -/
def stepP (p : GPart) (r : Nat → Bool) (b k : Nat) (s : (Nat → Bool) × Bool) : (Nat → Bool) × Bool :=
  let hit := r k && p.2 b
  let nx := if hit then (if p.1 then putR s.1 k else putR s.1 (k + 1)) else s.1
  (if nx k && p.1 then putR nx (k + 1) else nx, s.2 || hit)
/-- The first k parts of a step. -/
def stepN (l : List GPart) (r : Nat → Bool) (b : Nat) : Nat → (Nat → Bool) × Bool
  | 0 => (noneR, false)
  | k + 1 => match l[k]? with
    | none => stepN l r b k
    | some p => stepP p r b k (stepN l r b k)

theorem stepN_succ {l : List GPart} {r : Nat → Bool} {b k : Nat} {p : GPart} (h : l[k]? = some p) : stepN l r b (k + 1) = stepP p r b k (stepN l r b k) := by
  rw [stepN, h]

set_option maxRecDepth 100000 in
set_option maxHeartbeats 4000000 in
theorem step_any (bp ap : Nat) (l : List GPart) (r : Nat → Bool) (b : Nat) (w : World) (hb : (b : Int) < 256) (hl : l.length ≤ 64) (hbp : bp < w.heap.size) (hap : ap < w.heap.size)
    (hp : w.heap[bp]? = some (.cells (patV l) 137 (0, 0))) (ha : w.heap[ap]? = some (.cells (reachV r) 156 (0, 0))) :
    Calls Tryz.prog 127 #[.pointer (some ⟨bp, 0, none⟩), .pointer (some ⟨ap, 0, none⟩), .int .u8 b] w fun e w' =>
      e = .returned (.tuple #[.agg (reachV (stepN l r b l.length).1), .bool (stepN l r b l.length).2]) ∧ Below w.heap.size w w' := by
  have hz := zero_reach
  have HP := hide hp
  have HA := hide ha
  have n00 := pat_n hp
  clear hp ha
  go_enter Tryz.func127, Tryz.ntmps127
  go_wp2
  go_loopg [9, 16] l.length (fun g sm i wr => ∃ k : Nat, i = .int .i64 k ∧ sm = .bool (stepN l r b k).2 ∧ k + g = l.length ∧ RMine w wr (stepN l r b k).1)
  case atStart =>
    exact ⟨0, rfl, rfl, by omega, ⟨((Below.refl _ _).alloc (Nat.le_refl _) _).alloc (by simp) _, by simp, heap_alloc2_old _ _ _, heap_alloc2_new _ _ _⟩⟩
  case round =>
    obtain ⟨k, rfl, rfl, hkg, hM⟩ := hrel
    have HG := hide hkg
    clear n00
    cases gk with
    | zero =>
      obtain rfl : k = l.length := by omega
      obtain ⟨nx, h1⟩ : ∃ nx, (stepN l r b l.length).1 = nx := ⟨_, rfl⟩
      obtain ⟨sm, h2⟩ : ∃ sm, (stepN l r b l.length).2 = sm := ⟨_, rfl⟩
      rw [h1] at hM
      rw [h2]
      have H1 := hide h1
      have H2 := hide h2
      clear h1 h2
      have hst := store_reach noneR nx w.heap.size wr hM.out
      have hld2 := load_reach nx w.heap.size (wr.setRow w.heap.size (reachV nx)) (setRow_heap _ _ _ _ _ _ hM.out)
      have hat := hM.at_
      have hsz : (Tryz.prog.info? 156).map (·.size) = some (reachV nx).size := by rw [info_reach, reachV_size]
      have hps := reachV_size nx
      clear hkg hz
      go_wp2_with (with_reducible refine wpList_load_row rfl 156 (.tmp 8) rfl (w.heap.size + 1) rfl 156 _ (0, 0) _ hat Tryz.underlying156 rfl hsz ?_)
      refine bodyPost_ret (v := .tuple #[.agg (reachV nx), .bool sm]) (by simp [results, Tryz.results127, asAddr, hld2]) rfl ⟨by rw [H1.out, H2.out], ?_⟩
      exact below_setRow hM.below (Nat.le_refl _) _
    | succ g =>
      have hkl : k < l.length := by omega
      obtain ⟨p, hk⟩ : ∃ p, l[k]? = some p := ⟨_, List.getElem?_eq_getElem hkl⟩
      have hS := stepN_succ (r := r) (b := b) hk
      have hpr : wr.heap[bp]? = some (.cells (patV l) 137 (0, 0)) := (hM.below.block bp hbp).trans HP.out
      have har : wr.heap[ap]? = some (.cells (reachV r) 156 (0, 0)) := (hM.below.block ap hap).trans HA.out
      have m0 := pat_part hpr k 0 p (by omega) (by omega) hk
      have m1 := pat_part hpr k 1 p (by omega) (by omega) hk
      have m2 := pat_part hpr k 2 p (by omega) (by omega) hk
      have m3 := pat_part hpr k 3 p (by omega) (by omega) hk
      have m4 := pat_part hpr k 4 p (by omega) (by omega) hk
      obtain ⟨m, P⟩ := p
      simp only [Nat.add_zero] at m0
      change _ = some (Value.bool m) at m0
      change _ = some (Value.int .u64 (wd P 0 : Nat)) at m1
      change _ = some (Value.int .u64 (wd P 1 : Nat)) at m2
      change _ = some (Value.int .u64 (wd P 2 : Nat)) at m3
      change _ = some (Value.int .u64 (wd P 3 : Nat)) at m4
      have a0 : wr.cell? ⟨ap, k, none⟩ = some (.bool (r k)) := by rw [cell_of_row _ _ _ _ _ _ har, reachV_get _ _ (by omega)]
      have hz1 := hM.size
      have hbp' : bp < wr.heap.size := Nat.lt_of_lt_of_le hbp hM.below.size
      have hap' : ap < wr.heap.size := Nat.lt_of_lt_of_le hap hM.below.size
      have hk1 : (k : Int) < l.length := by omega
      have hk2 : (k : Int) < 64 := by omega
      have hk0 : k < 64 := by omega
      obtain ⟨nx, h1⟩ : ∃ nx, (stepN l r b k).1 = nx := ⟨_, rfl⟩
      obtain ⟨sm, h2⟩ : ∃ sm, (stepN l r b k).2 = sm := ⟨_, rfl⟩
      rw [h1] at hM
      rw [h2]
      unfold stepP at hS
      rw [h1, h2] at hS
      clear h1 h2 hpr har hk hkg hz
      have HS := hide hS
      clear hS
      have x0 := hM.cx k (by omega)
      have x1 := hM.cx (k + 1) (by omega)
      have fz := hM.fz
      have nbp : bp ≠ w.heap.size + 1 := by omega
      rcases Bool.eq_false_or_eq_true (r k) with hrk | hrk
      · rcases Bool.eq_false_or_eq_true (P b) with hPb | hPb
        · rw [hrk] at a0
          cases m with
          | true =>
            have hS' : stepN l r b (k + 1) = (putR (putR nx k) (k + 1), true) := by rw [HS.out, hrk]; simp [hPb, putR]
            clear hrk HS
            have HS := hide hS'
            clear hS'
            go_wp2_with (go_at_call 137; refine (has_any P b hb _).mono ?_; rintro e w1 ⟨rfl, hb1⟩; rw [hPb]; have hM1 := hM.after hb1; have y0 := hM1.cx k (by omega); have y1 := hM1.cx (k + 1) (by omega); have fz1 := hM1.fz; obtain ⟨hc, hf⟩ := bcell hb1; have hz2 := hM1.size)
            go_roundg g
            case rel => exact ⟨k + 1, by go_num, by rw [HS.out], by have := HG.out; omega, by rw [HS.out]; exact (hM1.put k (by omega)).put (k + 1) (by omega)⟩
            case measure => omega
          | false =>
            have hS' : stepN l r b (k + 1) = (putR nx (k + 1), true) := by rw [HS.out, hrk]; simp [hPb]
            clear hrk HS
            have HS := hide hS'
            clear hS'
            rcases Bool.eq_false_or_eq_true (nx k) with hn | hn
            · go_wp2_with (go_at_call 137; refine (has_any P b hb _).mono ?_; rintro e w1 ⟨rfl, hb1⟩; rw [hPb]; have hM1 := hM.after hb1; have y0 := hM1.cx k (by omega); have y1 := hM1.cx (k + 1) (by omega); have fz1 := hM1.fz; obtain ⟨hc, hf⟩ := bcell hb1; have hz2 := hM1.size; rw [hn] at y0)
              go_roundg g
              case rel => exact ⟨k + 1, by go_num, by rw [HS.out], by have := HG.out; omega, by rw [HS.out]; exact hM1.put (k + 1) (by omega)⟩
              case measure => omega
            · go_wp2_with (go_at_call 137; refine (has_any P b hb _).mono ?_; rintro e w1 ⟨rfl, hb1⟩; rw [hPb]; have hM1 := hM.after hb1; have y0 := hM1.cx k (by omega); have y1 := hM1.cx (k + 1) (by omega); have fz1 := hM1.fz; obtain ⟨hc, hf⟩ := bcell hb1; have hz2 := hM1.size; rw [hn] at y0)
              go_roundg g
              case rel => exact ⟨k + 1, by go_num, by rw [HS.out], by have := HG.out; omega, by rw [HS.out]; exact hM1.put (k + 1) (by omega)⟩
              case measure => omega
        · rw [hrk] at a0
          have hS' : stepN l r b (k + 1) = (if nx k && m then putR nx (k + 1) else nx, sm) := by rw [HS.out, hrk]; simp [hPb]
          clear hrk HS
          rcases Bool.eq_false_or_eq_true (nx k) with hn | hn
          · rw [hn] at x0 hS'
            cases m with
            | true =>
              have HS := hide hS'
              clear hS'
              go_wp2_with (go_at_call 137; refine (has_any P b hb _).mono ?_; rintro e w1 ⟨rfl, hb1⟩; rw [hPb]; have hM1 := hM.after hb1; have y0 := hM1.cx k (by omega); have y1 := hM1.cx (k + 1) (by omega); have fz1 := hM1.fz; obtain ⟨hc, hf⟩ := bcell hb1; have hz2 := hM1.size; rw [hn] at y0; clear hn)
              go_roundg g
              case rel => exact ⟨k + 1, by go_num, by rw [HS.out], by have := HG.out; omega, by rw [HS.out]; exact hM1.put (k + 1) (by omega)⟩
              case measure => omega
            | false =>
              have HS := hide hS'
              clear hS'
              go_wp2_with (go_at_call 137; refine (has_any P b hb _).mono ?_; rintro e w1 ⟨rfl, hb1⟩; rw [hPb]; have hM1 := hM.after hb1; have y0 := hM1.cx k (by omega); have y1 := hM1.cx (k + 1) (by omega); have fz1 := hM1.fz; obtain ⟨hc, hf⟩ := bcell hb1; have hz2 := hM1.size; rw [hn] at y0; clear hn)
              go_roundg g
              case rel => exact ⟨k + 1, by go_num, by rw [HS.out], by have := HG.out; omega, by rw [HS.out]; exact hM1⟩
              case measure => omega
          · rw [hn] at x0 hS'
            have HS := hide hS'
            clear hS'
            go_wp2_with (go_at_call 137; refine (has_any P b hb _).mono ?_; rintro e w1 ⟨rfl, hb1⟩; rw [hPb]; have hM1 := hM.after hb1; have y0 := hM1.cx k (by omega); have y1 := hM1.cx (k + 1) (by omega); have fz1 := hM1.fz; obtain ⟨hc, hf⟩ := bcell hb1; have hz2 := hM1.size; rw [hn] at y0; clear hn)
            go_roundg g
            case rel => exact ⟨k + 1, by go_num, by rw [HS.out], by have := HG.out; omega, by rw [HS.out]; exact hM1⟩
            case measure => omega
      · rw [hrk] at a0
        have hS' : stepN l r b (k + 1) = (if nx k && m then putR nx (k + 1) else nx, sm) := by rw [HS.out, hrk]; simp
        clear hrk HS
        rcases Bool.eq_false_or_eq_true (nx k) with hn | hn
        · rw [hn] at x0 hS'
          clear hn
          cases m with
          | true =>
            have HS := hide hS'
            clear hS'
            go_wp2
            go_roundg g
            case rel => exact ⟨k + 1, by go_num, by rw [HS.out], by have := HG.out; omega, by rw [HS.out]; exact hM.put (k + 1) (by omega)⟩
            case measure => omega
          | false =>
            have HS := hide hS'
            clear hS'
            go_wp2
            go_roundg g
            case rel => exact ⟨k + 1, by go_num, by rw [HS.out], by have := HG.out; omega, by rw [HS.out]; exact hM⟩
            case measure => omega
        · rw [hn] at x0 hS'
          clear hn
          have HS := hide hS'
          clear hS'
          go_wp2
          go_roundg g
          case rel => exact ⟨k + 1, by go_num, by rw [HS.out], by have := HG.out; omega, by rw [HS.out]; exact hM⟩
          case measure => omega
end Go.Proofs.YteoafohebgfjdaaGreatDoor
