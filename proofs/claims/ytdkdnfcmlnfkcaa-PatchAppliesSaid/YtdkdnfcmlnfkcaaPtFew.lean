/-
  The law's few: are tokens tried?
-/
import Derived.Test.YtdkdnfcmlnfkcaaTkRight
namespace Go.Proofs.Ytdkdnfcmlnfkcaa
open Go.RowKit
set_option maxRecDepth 100000

/-- Are tokens tried? -/
def fewP (l : List Tk) : Bool := decide (l.length ≤ 20) && l.all fun a => decide (a.data.size ≤ 200)
theorem fewP_len {l : List Tk} (h : fewP l = true) : l.length ≤ 20 := by
  unfold fewP at h
  rw [Bool.and_eq_true] at h
  exact of_decide_eq_true h.1
theorem fewP_size {l : List Tk} (h : fewP l = true) : ∀ a ∈ l, a.data.size ≤ 200 := by
  unfold fewP at h
  rw [Bool.and_eq_true, List.all_eq_true] at h
  exact fun a ha => of_decide_eq_true (h.2 a ha)

set_option maxHeartbeats 1000000 in
theorem fewP_any (A : Option Addr) (l : List Tk) (c : Nat) (w : World) (hA : RdT w w.heap.size A l) :
    Calls Try.prog 56 #[.slice A l.length c] w fun e w' => e = .returned (.bool (fewP l)) ∧ w' = w := by
  by_cases h40 : (20 : Int) < l.length
  · have HF := hide (show fewP l = false by unfold fewP; rw [decide_eq_false (by omega)]; rfl)
    go_enter Try.func56, Try.ntmps56
    go_wp2_with fail
    exact bodyPost_ret (results_tmp rfl _ _ _) rfl ⟨by rw [HF.out]; rfl, rfl⟩
  go_enter Try.func56, Try.ntmps56
  go_wp2_with fail
  go_loopw [3] (fun i wr => ∃ k : Nat, k ≤ l.length ∧ i = .int .i64 k ∧ (∀ a ∈ l.take k, a.data.size ≤ 200) ∧ wr = w) (fun i _ => l.length - (intOf i).toNat)
  case atStart => exact ⟨0, Nat.zero_le _, rfl, by simp, rfl⟩
  case round =>
    obtain ⟨k, hk, rfl, hT, rfl⟩ := hrel
    by_cases hlt : (k : Int) < l.length
    · have hkl : k < l.length := by omega
      obtain ⟨ad, rfl, hb, hc⟩ := hA k l[k] (List.getElem?_eq_getElem hkl)
      have h4 := hc.data
      have hTS : (∀ a ∈ l.take (k + 1), a.data.size ≤ 200) ↔ l[k].data.size ≤ 200 := by
        rw [← List.take_append_getElem hkl]
        simp only [List.mem_append, List.mem_singleton]
        exact ⟨fun h => h _ (.inr rfl), fun h a ha => ha.elim (hT a) fun e => e ▸ h⟩
      have hF : ¬ l[k].data.size ≤ 200 → fewP l = false := fun h => by
        have : (l.all fun a => decide (a.data.size ≤ 200)) = false := by
          rw [List.all_eq_false]
          exact ⟨l[k], List.getElem_mem hkl, by simpa using h⟩
        unfold fewP; rw [this, Bool.and_false]
      generalize l[k].data = s at h4 hTS hF
      by_cases h200 : (200 : Int) < s.size
      · have HF := hide (hF (by omega))
        clear hF hTS hc
        go_wp2_with fail
        exact bodyPost_ret (results_tmp rfl _ _ _) rfl ⟨by rw [HF.out]; rfl, rfl⟩
      · have HT := hide (hTS.2 (by omega))
        clear hF hTS hc
        go_wp2_with fail
        go_roundw
        case rel => exact ⟨k + 1, hkl, rfl, HT.out, trivial⟩
        case measure => simp [intOf]; omega
    · obtain rfl : k = l.length := by omega
      have HF := hide (show fewP l = true by
        unfold fewP
        rw [decide_eq_true (by omega), Bool.true_and, List.all_eq_true]
        intro a ha
        exact decide_eq_true (hT a (by simpa using ha)))
      go_wp2_with fail
      exact bodyPost_ret (results_tmp rfl _ _ _) rfl ⟨by rw [HF.out]; rfl, rfl⟩
end Go.Proofs.Ytdkdnfcmlnfkcaa
