/-
  MixShort's law.
-/
import Derived.Test.YtffhkdbdcpobbabMixAwake
import Derived.Deep.RegionHeld3
import Derived.Laws.Strings
namespace Go.Proofs.Ytffhkdbdcpobbab
open Go.RowKit
set_option maxRecDepth 100000

theorem short_one (m : List UInt8) (h1 : 1 ≤ m.length) (h2 : m.length ≤ 8) : sumL m = closedN (roundN startN (wordN m)) m.length := by
  unfold sumL
  rw [show (m.length + 7) / 8 = 0 + 1 by omega, atN_succ]
  rw [show m.drop (8 * 0) = m from rfl, List.take_of_length_le h2]
  rfl
theorem short_iff (a b : List UInt8) (h1 : 1 ≤ a.length) (h2 : a.length ≤ 8) (h3 : b.length = a.length) : sumL a = sumL b ↔ a = b := by
  refine ⟨fun h => ?_, fun h => by rw [h]⟩
  rw [short_one a h1 h2, short_one b (by omega) (by omega), h3] at h
  have h4 := closed_inj _ _ _ (roundN_two _ _) (roundN_two _ _) (by omega) h
  exact wordN_inj a b h3.symm (round_word_inj _ _ _ (wordN_small a h2) (wordN_small b (by omega)) h4)

set_option maxHeartbeats 4000000 in
theorem short_in (A B : Option Addr) (a b : List UInt8) (c d n : Nat) (w : World) (hA : RdB w w.heap.size A a) (hB : RdB w w.heap.size B b) (hc : a.length ≤ c) (hd : b.length ≤ d) (h1 : 1 ≤ n) (h2 : n ≤ 8) (hla : a.length = n) (hlb : b.length = n) :
    Calls Try.prog 3 #[.slice A n c, .slice B n d] w fun e w' => e = .returned (.bool true) ∧ Below w.heap.size w w' := by
  have hiff := short_iff a b (by omega) (by omega) (by omega)
  have KA := hide (fun (W : World) (hW : Below w.heap.size w W) => (show (convert 22 9 (.slice A n c)).run Try.prog W = .ok (.string (ofL a)) W from by rw [← hla]; exact conv_any (hA.below hW (Nat.le_refl _)) c))
  have KB := hide (fun (W : World) (hW : Below w.heap.size w W) => (show (convert 22 9 (.slice B n d)).run Try.prog W = .ok (.string (ofL b)) W from by rw [← hlb]; exact conv_any (hB.below hW (Nat.le_refl _)) d))
  have HOa := hide (fun (W : World) (hW : Below w.heap.size w W) => (show Calls Try.prog 6 #[.slice A n c] W fun e w' => e = .returned (.agg #[.int .u64 ((sumL a).1 : Nat), .int .u64 ((sumL a).2 : Nat)]) ∧ Below W.heap.size W w' from by rw [← hla]; exact of_any A a c W ((hA.below hW (Nat.le_refl _)).mono hW.size) hc (by omega)))
  have HOb := hide (fun (W : World) (hW : Below w.heap.size w W) => (show Calls Try.prog 6 #[.slice B n d] W fun e w' => e = .returned (.agg #[.int .u64 ((sumL b).1 : Nat), .int .u64 ((sumL b).2 : Nat)]) ∧ Below W.heap.size W w' from by rw [← hlb]; exact of_any B b d W ((hB.below hW (Nat.le_refl _)).mono hW.size) hd (by omega)))
  clear hA hB hc hd
  have h1i : (1 : Int) ≤ n := by omega
  have h2i : (n : Int) ≤ 8 := by omega
  have b1 : decide ((n : Int) < 1) = false := by rw [decide_eq_false_iff_not]; omega
  have b2 : decide ((8 : Int) < n) = false := by rw [decide_eq_false_iff_not]; omega
  have hbw : Below w.heap.size w w := Below.refl _ w
  by_cases hab : a = b
  · subst hab
    obtain ⟨q, hq⟩ : ∃ q, q = sumL a := ⟨_, rfl⟩
    rw [← hq] at HOa HOb
    clear hq
    generalize ofL a = x at KA KB
    clear hiff hla hlb h1 h2
    go_enter Try.func3, Try.ntmps3
    go_wp2_with fail
    generalize Value.slice A n c = V at KA HOa ⊢
    generalize Value.slice B n d = V2 at KB HOb ⊢
    have hd0 : Below w.heap.size w w.drew := ⟨rfl, rfl, rfl, Nat.le_refl _, fun _ _ => rfl⟩
    go_region_held3 (fun w' => Below w.heap.size w w' ∧ (convert 22 9 V).run Try.prog w' = .ok (.string x) w' ∧ (convert 22 9 V2).run Try.prog w' = .ok (.string x) w')
      (first
        | exact ⟨hd0, KA.out _ hd0, KB.out _ hd0⟩
        | exact ⟨hBW, KA.out _ hBW, KB.out _ hBW⟩)
      (first
        | (go_at_call 5; refine (awake_any _).mono ?_; rintro e wa ⟨rfl, hba⟩; have hBW : Below w.heap.size w wa := hd0.trans hba)
        | (go_at_call_of 6 V; refine (HOa.out _ hBW).mono ?_; rintro e wa ⟨rfl, hba⟩; have hBW := hBW.trans (hba.mono hBW.size))
        | (go_at_call_of 6 V2; refine (HOb.out _ hBW).mono ?_; rintro e wa ⟨rfl, hba⟩; have hBW := hBW.trans (hba.mono hBW.size)))
    all_goals
      rename_i hh
      obtain ⟨hBz, _⟩ := hh
      go_wp2_with fail
      exact bodyPost_ret (results_tmp rfl _ _ _) rfl ⟨rfl, hBz⟩
  · have hne : ¬ sumL a = sumL b := fun h => hab (hiff.1 h)
    have hx : ¬ ofL a = ofL b := fun h => hab (by have := congrArg toL h; simpa [toL, ofL] using this)
    obtain ⟨q, hq⟩ : ∃ q, q = sumL a := ⟨_, rfl⟩
    obtain ⟨r, hr⟩ : ∃ r, r = sumL b := ⟨_, rfl⟩
    rw [← hq] at HOa hne
    rw [← hr] at HOb hne
    clear hq hr hiff
    generalize ofL a = x at KA hx
    generalize ofL b = y at KB hx
    have hx2 : (x.toList == y.toList) = false := by
      rw [beq_eq_false_iff_ne, ByteArray.toList_eq, ByteArray.toList_eq]
      exact fun h => hx (toL_inj h)
    obtain ⟨q1, q2⟩ := q
    obtain ⟨r1, r2⟩ := r
    simp only at HOa HOb
    clear hla hlb h1 h2 hab
    have h3 : (¬ q1 = r1) ∨ (q1 = r1 ∧ ¬ q2 = r2) := by
      by_cases h : q1 = r1
      · exact .inr ⟨h, fun h2 => hne (by rw [h, h2])⟩
      · exact .inl h
    clear hne
    rcases h3 with h3 | ⟨h3, h4⟩
    · have e1 : ((q1 : Int) == r1) = false := by rw [beq_eq_false_iff_ne]; omega
      have e2 : ¬ ((q1 : Int) = r1) := by omega
      clear h3
      go_enter Try.func3, Try.ntmps3
      go_wp2_with fail
      generalize Value.slice A n c = V at KA HOa ⊢
      generalize Value.slice B n d = V2 at KB HOb ⊢
      have hd0 : Below w.heap.size w w.drew := ⟨rfl, rfl, rfl, Nat.le_refl _, fun _ _ => rfl⟩
      go_region_held3 (fun w' => Below w.heap.size w w' ∧ (convert 22 9 V).run Try.prog w' = .ok (.string x) w' ∧ (convert 22 9 V2).run Try.prog w' = .ok (.string y) w')
        (first
          | exact ⟨hd0, KA.out _ hd0, KB.out _ hd0⟩
          | exact ⟨hBW, KA.out _ hBW, KB.out _ hBW⟩)
        (first
          | (go_at_call 5; refine (awake_any _).mono ?_; rintro e wa ⟨rfl, hba⟩; have hBW : Below w.heap.size w wa := hd0.trans hba)
          | (go_at_call_of 6 V; refine (HOa.out _ hBW).mono ?_; rintro e wa ⟨rfl, hba⟩; have hBW := hBW.trans (hba.mono hBW.size))
          | (go_at_call_of 6 V2; refine (HOb.out _ hBW).mono ?_; rintro e wa ⟨rfl, hba⟩; have hBW := hBW.trans (hba.mono hBW.size)))
      all_goals
        rename_i hh
        obtain ⟨hBz, _⟩ := hh
        go_wp2_with fail
        exact bodyPost_ret (results_tmp rfl _ _ _) rfl ⟨rfl, hBz⟩
    · subst h3
      have e1 : ((q2 : Int) == r2) = false := by rw [beq_eq_false_iff_ne]; omega
      have e2 : ¬ ((q2 : Int) = r2) := by omega
      clear h4
      go_enter Try.func3, Try.ntmps3
      go_wp2_with fail
      generalize Value.slice A n c = V at KA HOa ⊢
      generalize Value.slice B n d = V2 at KB HOb ⊢
      have hd0 : Below w.heap.size w w.drew := ⟨rfl, rfl, rfl, Nat.le_refl _, fun _ _ => rfl⟩
      go_region_held3 (fun w' => Below w.heap.size w w' ∧ (convert 22 9 V).run Try.prog w' = .ok (.string x) w' ∧ (convert 22 9 V2).run Try.prog w' = .ok (.string y) w')
        (first
          | exact ⟨hd0, KA.out _ hd0, KB.out _ hd0⟩
          | exact ⟨hBW, KA.out _ hBW, KB.out _ hBW⟩)
        (first
          | (go_at_call 5; refine (awake_any _).mono ?_; rintro e wa ⟨rfl, hba⟩; have hBW : Below w.heap.size w wa := hd0.trans hba)
          | (go_at_call_of 6 V; refine (HOa.out _ hBW).mono ?_; rintro e wa ⟨rfl, hba⟩; have hBW := hBW.trans (hba.mono hBW.size))
          | (go_at_call_of 6 V2; refine (HOb.out _ hBW).mono ?_; rintro e wa ⟨rfl, hba⟩; have hBW := hBW.trans (hba.mono hBW.size)))
      all_goals
        rename_i hh
        obtain ⟨hBz, _⟩ := hh
        go_wp2_with fail
        exact bodyPost_ret (results_tmp rfl _ _ _) rfl ⟨rfl, hBz⟩

set_option maxHeartbeats 2000000 in
theorem short_law (A B : Option Addr) (a b : List UInt8) (c d : Nat) (w : World) (hA : RdB w w.heap.size A a) (hB : RdB w w.heap.size B b) (hc : a.length ≤ c) (hd : b.length ≤ d) :
    Calls Try.prog 3 #[.slice A a.length c, .slice B b.length d] w fun e w' => e = .returned (.bool true) ∧ Below w.heap.size w w' := by
  by_cases h1 : a.length < 1
  · have h1i : (a.length : Int) < 1 := by omega
    clear hA hB hc hd h1
    go_enter Try.func3, Try.ntmps3
    go_wp2_with fail
    refine (awake_any _).mono ?_
    rintro e w9 ⟨rfl, hB9⟩
    go_wp2_with fail
    exact bodyPost_ret (results_tmp rfl _ _ _) rfl ⟨rfl, hB9⟩
  have h1i : (1 : Int) ≤ a.length := by omega
  by_cases h2 : 8 < a.length
  · have h2i : (8 : Int) < a.length := by omega
    clear hA hB hc hd h1 h2
    go_enter Try.func3, Try.ntmps3
    go_wp2_with fail
    refine (awake_any _).mono ?_
    rintro e w9 ⟨rfl, hB9⟩
    go_wp2_with fail
    exact bodyPost_ret (results_tmp rfl _ _ _) rfl ⟨rfl, hB9⟩
  have h2i : (a.length : Int) ≤ 8 := by omega
  by_cases h3 : b.length = a.length
  · have h := short_in A B a b c d a.length w hA hB hc hd (by omega) (by omega) rfl h3
    rw [h3]
    exact h
  · have h3i : ((b.length : Int) != a.length) = true := by rw [bne_iff_ne]; omega
    clear hA hB hc hd h1 h2 h3
    go_enter Try.func3, Try.ntmps3
    go_wp2_with fail
    refine (awake_any _).mono ?_
    rintro e w9 ⟨rfl, hB9⟩
    go_wp2_with fail
    exact bodyPost_ret (results_tmp rfl _ _ _) rfl ⟨rfl, hB9⟩
end Go.Proofs.Ytffhkdbdcpobbab
