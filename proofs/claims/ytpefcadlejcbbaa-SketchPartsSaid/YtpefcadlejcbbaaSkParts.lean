/-
  sketch: whose numbers are no greater; twice a text.
-/
import Derived.Test.YtpefcadlejcbbaaSkFold
import Derived.Test.YtpefcadlejcbbaaSkShL
namespace Go.Proofs.Ytpefcadlejcbbaa
set_option maxRecDepth 100000

theorem fold_le (f : Nat → Nat) (ws : List Nat) : ∀ s : Nat, ws.foldl (fun s v => min s (f v)) s ≤ s ∧ ∀ v ∈ ws, ws.foldl (fun s v => min s (f v)) s ≤ f v := by
  induction ws with
  | nil => intro s; exact ⟨Nat.le_refl _, fun v h => by simp at h⟩
  | cons x ws ih =>
    intro s
    obtain ⟨h1, h2⟩ := ih (min s (f x))
    refine ⟨Nat.le_trans h1 (Nat.min_le_left _ _), fun v h => ?_⟩
    rcases List.mem_cons.1 h with rfl | h
    · exact Nat.le_trans h1 (Nat.min_le_right _ _)
    · exact h2 v h
theorem le_fold (f : Nat → Nat) (m : Nat) (ws : List Nat) : ∀ s : Nat, m ≤ s → (∀ v ∈ ws, m ≤ f v) → m ≤ ws.foldl (fun s v => min s (f v)) s := by
  induction ws with
  | nil => intro s hs _; exact hs
  | cons x ws ih =>
    intro s hs h
    exact ih _ (Nat.le_min.2 ⟨hs, h x (by simp)⟩) fun v hv => h v (by simp [hv])
theorem leastL_none (ws : List Nat) (k : Nat) : leastL ws k ≤ 18446744073709551615 := (fold_le (fun v => lowN v k) ws _).1
theorem leastL_le (ws : List Nat) (k v : Nat) (h : v ∈ ws) : leastL ws k ≤ lowN v k := (fold_le (fun v => lowN v k) ws _).2 v h
theorem le_leastL (ws : List Nat) (k m : Nat) (h0 : m ≤ 18446744073709551615) (h : ∀ v ∈ ws, m ≤ lowN v k) : m ≤ leastL ws k := le_fold (fun v => lowN v k) m ws _ h0 h
theorem leastL_sub (ws vs : List Nat) (k : Nat) (h : ∀ v ∈ vs, v ∈ ws) : leastL ws k ≤ leastL vs k :=
  le_leastL _ _ _ (leastL_none _ _) fun v hv => leastL_le _ _ _ (h v hv)
theorem leastL_union (ws a b : List Nat) (k : Nat) (h : ∀ v, v ∈ ws ↔ v ∈ a ∨ v ∈ b) : leastL ws k = min (leastL a k) (leastL b k) := by
  apply Nat.le_antisymm
  · exact Nat.le_min.2 ⟨leastL_sub _ _ _ fun v hv => (h v).2 (.inl hv), leastL_sub _ _ _ fun v hv => (h v).2 (.inr hv)⟩
  · refine le_leastL _ _ _ (Nat.le_trans (Nat.min_le_left _ _) (leastL_none _ _)) fun v hv => ?_
    rcases (h v).1 hv with h | h
    · exact Nat.le_trans (Nat.min_le_left _ _) (leastL_le _ _ _ h)
    · exact Nat.le_trans (Nat.min_le_right _ _) (leastL_le _ _ _ h)
/-- The window of four bytes at a place. -/
def winF (l : List UInt8) (i : Nat) : List UInt8 := (l.drop i).take 4
theorem mem_shL (l : List UInt8) (h : 4 ≤ l.length) (v : Nat) : v ∈ shL l ↔ ∃ i, i + 4 ≤ l.length ∧ v = wordL (winF l i) := by
  have h0 : l ≠ [] := by rintro rfl; simp at h
  have hn : ofN l = 4 := by unfold ofN; omega
  unfold shL
  rw [if_neg h0, List.mem_map, hn]
  constructor
  · rintro ⟨i, hi, rfl⟩
    rw [List.mem_range] at hi
    exact ⟨i, by omega, by unfold shAt winF; rw [hn]⟩
  · rintro ⟨i, hi, rfl⟩
    exact ⟨i, by rw [List.mem_range]; omega, by unfold shAt winF; rw [hn]⟩
theorem winF_part (l : List UInt8) (at_ n i : Nat) (h : i + 4 ≤ n) : winF ((l.drop at_).take n) i = winF l (at_ + i) := by
  unfold winF
  rw [List.drop_take, List.take_take, List.drop_drop, Nat.min_eq_left (by omega)]
theorem part_le (l : List UInt8) (at_ n k : Nat) (h4 : 4 ≤ n) (h : at_ + n ≤ l.length) : leastL (shL l) k ≤ leastL (shL ((l.drop at_).take n)) k := by
  refine leastL_sub _ _ _ fun v hv => ?_
  have hl : ((l.drop at_).take n).length = n := by rw [List.length_take, List.length_drop]; omega
  obtain ⟨i, hi, rfl⟩ := (mem_shL _ (by omega) v).1 hv
  rw [hl] at hi
  exact (mem_shL l (by omega) _).2 ⟨at_ + i, by omega, by rw [winF_part l at_ n i hi]⟩
theorem winF_left (a b : List UInt8) (i : Nat) (h : i + 4 ≤ a.length) : winF (a ++ b) i = winF a i := by
  unfold winF
  rw [List.drop_append_of_le_length (by omega), List.take_append_of_le_length (by rw [List.length_drop]; omega)]
theorem winF_right (a b : List UInt8) (i : Nat) (h : a.length ≤ i) : winF (a ++ b) i = winF b (i - a.length) := by
  unfold winF
  rw [List.drop_append, List.drop_eq_nil_of_le h, List.nil_append]
/-- The seam of a text with itself. -/
def seamL (a : List UInt8) : List UInt8 := a.drop (a.length - 3) ++ a.take 3
theorem seamL_len (a : List UInt8) (h : 4 ≤ a.length) : (seamL a).length = 6 := by unfold seamL; rw [List.length_append, List.length_drop, List.length_take]; omega
theorem seam_part (a : List UInt8) (h : 4 ≤ a.length) : seamL a = ((a ++ a).drop (a.length - 3)).take 6 := by
  have hd : (a.drop (a.length - 3)).length = 3 := by rw [List.length_drop]; omega
  unfold seamL
  rw [List.drop_append_of_le_length (by omega), List.take_append, hd]
  congr 1
  exact (List.take_of_length_le (by omega)).symm
theorem twice_mem (a : List UInt8) (h : 4 ≤ a.length) (v : Nat) : v ∈ shL (a ++ a) ↔ v ∈ shL a ∨ v ∈ shL (seamL a) := by
  have hs := seamL_len a h
  have hl : (a ++ a).length = a.length + a.length := List.length_append
  rw [mem_shL _ (by omega), mem_shL _ h, mem_shL _ (by omega)]
  rw [hl, hs]
  constructor
  · rintro ⟨i, hi, rfl⟩
    by_cases h1 : i + 4 ≤ a.length
    · exact .inl ⟨i, h1, by rw [winF_left a a i h1]⟩
    · by_cases h2 : a.length ≤ i
      · exact .inl ⟨i - a.length, by omega, by rw [winF_right a a i h2]⟩
      · refine .inr ⟨i - (a.length - 3), by omega, ?_⟩
        rw [seam_part a h, winF_part _ _ _ _ (by omega)]
        congr 2; omega
  · rintro (⟨i, hi, rfl⟩ | ⟨i, hi, rfl⟩)
    · exact ⟨i, by omega, by rw [winF_left a a i hi]⟩
    · exact ⟨a.length - 3 + i, by omega, by rw [seam_part a h, winF_part _ _ _ _ (by omega)]⟩
theorem twice_sketch (a : List UInt8) (h : 4 ≤ a.length) : sketchL (shL (a ++ a)) = lessL (sketchL (shL a)) (sketchL (shL (seamL a))) := by
  unfold sketchL lessL
  rw [less_map]
  exact List.map_congr_left fun k _ => leastL_union _ _ _ _ (twice_mem a h)
end Go.Proofs.Ytpefcadlejcbbaa
