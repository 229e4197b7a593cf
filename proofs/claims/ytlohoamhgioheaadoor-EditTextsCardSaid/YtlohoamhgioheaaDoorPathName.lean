/-
  What paths.Name answers.
-/
import Derived.Test.YtlohoamhgioheaaDoorPathLib
namespace Go.Proofs.YtlohoamhgioheaaDoor
open Go.RowKit
set_option maxRecDepth 100000

def nameL (L : List UInt8) : Bool := !L.isEmpty && decide (L.length ≤ 12) && !(L == [46]) && !(L == [46, 46]) && L.all (fun c => letter c.toNat)

theorem nameL_snoc (s : ByteArray) (k : Nat) (h : k < s.size) : (s.data.toList.take (k + 1)).all (fun c => letter c.toNat) = ((s.data.toList.take k).all (fun c => letter c.toNat) && letter s[k].toNat) := by
  have h' : k < s.data.toList.length := by simpa using h
  have e : s.data.toList.take (k + 1) = s.data.toList.take k ++ [s.data.toList[k]] := List.take_succ_eq_append_getElem h'
  rw [e, List.all_append]
  congr 1
  show (letter s[k].toNat && true) = _
  simp

theorem name_long (s : ByteArray) (w : World) (h : (12 : Int) < s.size) (h0 : s.toList.isEmpty = false) :
    Calls Tryd.prog 56 #[.string s] w fun e w' => e = .returned (.bool (nameL s.data.toList)) ∧ w = w' := by
    have HL := hide (show nameL s.data.toList = false by
      have : ¬ s.data.toList.length ≤ 12 := by rw [← Lib.size_eq]; omega
      unfold nameL; simp only [this]; simp)
    go_enter Tryd.func56, Tryd.ntmps56
    go_wp2
    go_ret
    exact ⟨by rw [HL.out]; rfl, rfl⟩

set_option maxHeartbeats 800000 in
theorem name_any (s : ByteArray) (w : World) :
    Calls Tryd.prog 56 #[.string s] w fun e w' => e = .returned (.bool (nameL s.data.toList)) ∧ w = w' := by
  cases h0 : s.toList.isEmpty with
  | true =>
    have HL := hide (show nameL s.data.toList = false by unfold nameL; rw [← Lib.toList_data, h0]; rfl)
    go_enter Tryd.func56, Tryd.ntmps56
    go_wp2
    go_ret
    exact ⟨by rw [HL.out]; rfl, rfl⟩
  | false =>
  by_cases h1 : (12 : Int) < s.size
  · exact name_long s w h1 h0
  cases h2 : (s.toList == [46]) with
  | true =>
    have HL := hide (show nameL s.data.toList = false by unfold nameL; rw [← Lib.toList_data, h2]; simp)
    go_enter Tryd.func56, Tryd.ntmps56
    go_wp2
    go_ret
    exact ⟨by rw [HL.out]; rfl, rfl⟩
  | false =>
  cases h3 : (s.toList == [46, 46]) with
  | true =>
    have HL := hide (show nameL s.data.toList = false by unfold nameL; rw [← Lib.toList_data, h3]; simp)
    go_enter Tryd.func56, Tryd.ntmps56
    go_wp2
    go_ret
    exact ⟨by rw [HL.out]; rfl, rfl⟩
  | false =>
    have hb : nameL s.data.toList = s.data.toList.all (fun c => letter c.toNat) := by
      have hl : decide (s.data.toList.length ≤ 12) = true := by rw [← Lib.size_eq]; simp; omega
      unfold nameL
      rw [hl]
      rw [← Lib.toList_data, h0, h2, h3]
      simp
    have HB := hide hb
    clear hb
    go_enter Tryd.func56, Tryd.ntmps56
    go_wp2
    go_loop [21] (fun i => ∃ k : Nat, k ≤ s.size ∧ i = .int .i64 k ∧ Hid ((s.data.toList.take k).all (fun c => letter c.toNat) = true)) (fun i => s.size - (intOf i).toNat)
    case atStart => exact ⟨0, Nat.zero_le _, rfl, by simp [Hid]⟩
    case round =>
      obtain ⟨k, hk, rfl, HA⟩ := hrel
      by_cases hlt : (k : Int) < s.size
      · have hlt' : k < s.size := by omega
        have hsn := nameL_snoc s k hlt'
        rw [HA.out, Bool.true_and] at hsn
        cases hc : letter s[k].toNat with
        | true =>
          rw [hc] at hsn
          have HS := hide hsn
          clear hsn
          go_wp2_with (go_at_call 70; refine (ofName_any _ _).mono ?_; rintro e w' ⟨rfl, rfl⟩; rw [hc])
          exact ⟨⟨k + 1, by omega, by go_num, HS⟩, by simp [intOf]; omega⟩
        | false =>
          have HF := hide (show nameL s.data.toList = false by
            rw [HB.out, List.all_eq_false]
            exact ⟨s[k], by rw [show s[k] = s.data.toList[k]'(by simpa using hlt') from rfl]; exact List.getElem_mem _, by rw [hc]; simp⟩)
          clear hsn
          go_wp2_with (go_at_call 70; refine (ofName_any _ _).mono ?_; rintro e w' ⟨rfl, rfl⟩; rw [hc])
          go_ret
          exact ⟨by rw [HF.out]; rfl, rfl⟩
      · have HF := hide (show nameL s.data.toList = true by
          have := HA.out
          rw [List.take_of_length_le (by simp; omega)] at this
          rw [HB.out, this])
        go_wp2
        go_ret
        exact ⟨by rw [HF.out]; rfl, rfl⟩
end Go.Proofs.YtlohoamhgioheaaDoor
