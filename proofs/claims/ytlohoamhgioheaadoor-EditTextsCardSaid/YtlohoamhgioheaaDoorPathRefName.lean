/-
  The reference's Name.
-/
import Derived.Test.YtlohoamhgioheaaDoorPathName
import Derived.Deep.DeepCutAuto
namespace Go.Proofs.YtlohoamhgioheaaDoor
open Go.RowKit
set_option maxRecDepth 100000

set_option maxRecDepth 100000 in
set_option maxHeartbeats 2000000 in
theorem refName_any (s : ByteArray) (w : World) (hs : (s.size : Int) ≤ 9223372036854775800) :
    Calls Tryd.prog 43 #[.string s] w fun e w' => e = .returned (.bool (nameL s.data.toList)) ∧ w' = w := by
  go_enter Tryd.func43, Tryd.ntmps43
  go_wp2_with fail
  go_loop [3] (fun i => ∃ k : Nat, k ≤ s.size ∧ i = .int .i64 k ∧ Hid ((s.data.toList.take k).all (fun c => letter c.toNat) = true)) (fun i => s.size - (intOf i).toNat)
  case atStart => exact ⟨0, Nat.zero_le _, rfl, by simp [Hid]⟩
  case round =>
    obtain ⟨k, hk, rfl, HA⟩ := hrel
    by_cases hlt : (k : Int) < s.size
    · have hlt' : k < s.size := by omega
      have hsn := nameL_snoc s k hlt'
      rw [HA.out, Bool.true_and] at hsn
      have HS := hide hsn
      clear hsn
      go_upto_region 5 with fail
      go_cut [4, 48] (fun _ s48 wx => s48 = .bool (!letter s[k].toNat) ∧ wx = w)
      case first =>
        by_cases e46 : (s[k].toNat : Int) = 46
        · have HL := hide (show letter (s[k].toNat : Int) = true by rw [e46]; rfl)
          go_wp2_with fail
          go_meet
          exact ⟨by rw [HL.out]; rfl, rfl⟩
        by_cases e95 : (s[k].toNat : Int) = 95
        · have HL := hide (show letter (s[k].toNat : Int) = true by rw [e95]; rfl)
          go_wp2_with fail
          go_meet
          exact ⟨by rw [HL.out]; rfl, rfl⟩
        by_cases e45 : (s[k].toNat : Int) = 45
        · have HL := hide (show letter (s[k].toNat : Int) = true by rw [e45]; rfl)
          go_wp2_with fail
          go_meet
          exact ⟨by rw [HL.out]; rfl, rfl⟩
        have d46 : ((s[k].toNat : Int) == 46) = false := beq_eq_false_iff_ne.2 e46
        have d95 : ((s[k].toNat : Int) == 95) = false := beq_eq_false_iff_ne.2 e95
        have d45 : ((s[k].toNat : Int) == 45) = false := beq_eq_false_iff_ne.2 e45
        clear e46 e95 e45
        by_cases r0 : (s[k].toNat : Int) < 48
        · have HL := hide (show letter (s[k].toNat : Int) = false by unfold letter; rw [d46, d95, d45]; simp; omega)
          have f0 : ¬ 97 ≤ (s[k].toNat : Int) := by omega
          have f1 : ¬ 65 ≤ (s[k].toNat : Int) := by omega
          have f2 : ¬ 48 ≤ (s[k].toNat : Int) := by omega
          clear r0
          go_wp2_with fail
          go_meet
          exact ⟨by rw [HL.out]; rfl, rfl⟩
        by_cases r1 : 48 ≤ (s[k].toNat : Int) ∧ (s[k].toNat : Int) ≤ 57
        · have HL := hide (show letter (s[k].toNat : Int) = true by unfold letter; rw [d46, d95, d45]; simp; omega)
          have f0 : ¬ 97 ≤ (s[k].toNat : Int) := by omega
          have f1 : ¬ 65 ≤ (s[k].toNat : Int) := by omega
          have f2 : 48 ≤ (s[k].toNat : Int) := by omega
          have f3 : (s[k].toNat : Int) ≤ 57 := by omega
          clear r1
          go_wp2_with fail
          go_meet
          exact ⟨by rw [HL.out]; rfl, rfl⟩
        by_cases r2 : 57 < (s[k].toNat : Int) ∧ (s[k].toNat : Int) < 65
        · have HL := hide (show letter (s[k].toNat : Int) = false by unfold letter; rw [d46, d95, d45]; simp; omega)
          have f0 : ¬ 97 ≤ (s[k].toNat : Int) := by omega
          have f1 : ¬ 65 ≤ (s[k].toNat : Int) := by omega
          have f2 : 48 ≤ (s[k].toNat : Int) := by omega
          have f3 : ¬ (s[k].toNat : Int) ≤ 57 := by omega
          clear r2
          go_wp2_with fail
          go_meet
          exact ⟨by rw [HL.out]; rfl, rfl⟩
        by_cases r3 : 65 ≤ (s[k].toNat : Int) ∧ (s[k].toNat : Int) ≤ 90
        · have HL := hide (show letter (s[k].toNat : Int) = true by unfold letter; rw [d46, d95, d45]; simp; omega)
          have f0 : ¬ 97 ≤ (s[k].toNat : Int) := by omega
          have f1 : 65 ≤ (s[k].toNat : Int) := by omega
          have f2 : (s[k].toNat : Int) ≤ 90 := by omega
          clear r3
          go_wp2_with fail
          go_meet
          exact ⟨by rw [HL.out]; rfl, rfl⟩
        by_cases r4 : 90 < (s[k].toNat : Int) ∧ (s[k].toNat : Int) < 97
        · have HL := hide (show letter (s[k].toNat : Int) = false by unfold letter; rw [d46, d95, d45]; simp; omega)
          have f0 : ¬ 97 ≤ (s[k].toNat : Int) := by omega
          have f1 : 65 ≤ (s[k].toNat : Int) := by omega
          have f2 : ¬ (s[k].toNat : Int) ≤ 90 := by omega
          have f3 : 48 ≤ (s[k].toNat : Int) := by omega
          have f4 : ¬ (s[k].toNat : Int) ≤ 57 := by omega
          clear r4
          go_wp2_with fail
          go_meet
          exact ⟨by rw [HL.out]; rfl, rfl⟩
        by_cases r5 : 97 ≤ (s[k].toNat : Int) ∧ (s[k].toNat : Int) ≤ 122
        · have HL := hide (show letter (s[k].toNat : Int) = true by unfold letter; rw [d46, d95, d45]; simp; omega)
          have f0 : 97 ≤ (s[k].toNat : Int) := by omega
          have f1 : (s[k].toNat : Int) ≤ 122 := by omega
          clear r5
          go_wp2_with fail
          go_meet
          exact ⟨by rw [HL.out]; rfl, rfl⟩
        by_cases r6 : 122 < (s[k].toNat : Int)
        · have HL := hide (show letter (s[k].toNat : Int) = false by unfold letter; rw [d46, d95, d45]; simp; omega)
          have f0 : 97 ≤ (s[k].toNat : Int) := by omega
          have f1 : ¬ (s[k].toNat : Int) ≤ 122 := by omega
          have f2 : 65 ≤ (s[k].toNat : Int) := by omega
          have f3 : ¬ (s[k].toNat : Int) ≤ 90 := by omega
          have f4 : 48 ≤ (s[k].toNat : Int) := by omega
          have f5 : ¬ (s[k].toNat : Int) ≤ 57 := by omega
          clear r6
          go_wp2_with fail
          go_meet
          exact ⟨by rw [HL.out]; rfl, rfl⟩
        omega
      case rest =>
        obtain ⟨rfl, rfl⟩ := hcut
        cases hc : letter s[k].toNat with
        | true =>
          go_wp2_with fail
          go_round
          case rel => exact ⟨k + 1, by omega, rfl, hide (by rw [HS.out, hc])⟩
          case measure => simp [intOf]; omega
        | false =>
          have HF := hide (show nameL s.data.toList = false by
            have h := HS.out
            rw [hc] at h
            have e : s.data.toList.all (fun c => letter c.toNat) = false := by
              rw [← List.take_append_drop (k + 1) s.data.toList, List.all_append, h]; rfl
            unfold nameL
            rw [e, Bool.and_false])
          go_wp2_with fail
          refine bodyPost_ret (results_tmp rfl _ _ _) rfl ⟨by rw [HF.out]; rfl, rfl⟩
    · obtain rfl : k = s.size := by omega
      have hall : s.data.toList.all (fun c => letter c.toNat) = true := by
        have h := HA.out
        rw [List.take_of_length_le (by simp)] at h
        exact h
      have hN : nameL s.data.toList = (!s.data.toList.isEmpty && decide (s.data.toList.length ≤ 12) && !(s.data.toList == [46]) && !(s.data.toList == [46, 46])) := by unfold nameL; rw [hall, Bool.and_true]
      rw [← Lib.toList_data] at hN
      have hsz : s.toList.length = s.size := by rw [Lib.toList_data]; simp
      rw [hsz] at hN
      clear hall HA hlt hk
      by_cases z1 : (1 : Int) ≤ s.size
      · have he : s.toList.isEmpty = false := by
          cases h : s.toList.isEmpty with
          | false => rfl
          | true => rw [List.isEmpty_iff.1 h] at hsz; simp at hsz; omega
        rw [he] at hN
        by_cases z2 : (s.size : Int) ≤ 12
        · have hd : decide (s.size ≤ 12) = true := by simp; omega
          rw [hd] at hN
          have HN := hide hN
          clear hN hsz he hd
          cases h46 : (s.toList == [46]) with
          | true =>
            go_wp2_with fail
            refine bodyPost_ret (results_tmp rfl _ _ _) rfl ⟨by rw [Lib.toList_data] at HN h46; rw [HN.out, h46]; rfl, rfl⟩
          | false =>
            go_wp2_with fail
            refine bodyPost_ret (results_tmp rfl _ _ _) rfl ⟨by rw [Lib.toList_data] at HN h46; rw [HN.out, h46, ← Lib.toList_data]; rfl, rfl⟩
        · have hd : decide (s.size ≤ 12) = false := by simp; omega
          rw [hd] at hN
          have HN := hide hN
          clear hN hsz he hd
          go_wp2_with fail
          refine bodyPost_ret (results_tmp rfl _ _ _) rfl ⟨by rw [Lib.toList_data] at HN; rw [HN.out]; rfl, rfl⟩
      · have he : s.toList.isEmpty = true := by
          rw [List.isEmpty_iff]
          apply List.eq_nil_of_length_eq_zero
          omega
        rw [he] at hN
        have HN := hide hN
        clear hN hsz he
        go_wp2_with fail
        refine bodyPost_ret (results_tmp rfl _ _ _) rfl ⟨by rw [Lib.toList_data] at HN; rw [HN.out]; rfl, rfl⟩
end Go.Proofs.YtlohoamhgioheaaDoor
