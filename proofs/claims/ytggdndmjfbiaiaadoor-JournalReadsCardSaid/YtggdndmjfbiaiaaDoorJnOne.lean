/-
  The reference's one: the record of a line.
-/
import Derived.Test.YtggdndmjfbiaiaaDoorJnOneMath
import Derived.Test.YtggdndmjfbiaiaaDoorJnRecord
import Derived.Test.YtggdndmjfbiaiaaDoorJnRefLine
import Derived.Deep.CutBlock
import Derived.Deep.DeepCutAuto
namespace Go.Proofs.YtggdndmjfbiaiaaDoor
open Go.RowKit
set_option maxRecDepth 100000

theorem at_byte (s : ByteArray) (i : Nat) (h : i < s.size) : (toL s)[i]? = some (s[i]) := by
  have h' : i < (toL s).length := by rw [size_toL]; exact h
  rw [List.getElem?_eq_getElem h']; rfl
/-- Where the first blank is, or the end. -/
def BlankAt (s : ByteArray) (a : Nat) : Prop := a ≤ s.size ∧ (∀ c ∈ (toL s).take a, c ≠ 32) ∧ (a = s.size ∨ (toL s)[a]? = some 32)
set_option maxHeartbeats 8000000 in
theorem one_any (s : ByteArray) (w : World) (hs : (s.size : Int) ≤ 100000) (hne : 0 < s.size) :
    Calls Tryd.prog 15 #[.string s] w fun e w' => e = .returned (.tuple (recV (toL s))) ∧ Below w.heap.size w w' := by
  obtain ⟨w1, hw1⟩ : ∃ w1, w1 = w.alloc (.cells #[.int .i64 0, .int .i64 0] 33) := ⟨_, rfl⟩
  have HR1 := hide (show w1.heap[w.heap.size]? = some (.cells #[.int .i64 0, .int .i64 0] 33 (0, 0)) by rw [hw1]; exact World.alloc_heap_new _ _)
  have HB1 := hide (show Below w.heap.size w w1 by rw [hw1]; exact (Below.refl _ w).alloc (Nat.le_refl _) _)
  have Hw1 := hide hw1
  have HNe := hide hne
  clear hw1 hne
  go_enter Tryd.func15, Tryd.ntmps15
  go_upto_block 0 with fail
  rw [← Hw1.out]
  go_cut [5] (fun av wx => ∃ a : Nat, av = .int .i64 a ∧ Hid (BlankAt s a) ∧ (a : Int) ≤ s.size ∧ w1 = wx)
  case first =>
    go_wp2_with fail
    go_loopg [5] s.size (fun gk av wr => ∃ a : Nat, av = .int .i64 a ∧ a + gk = s.size ∧ Hid (∀ c ∈ (toL s).take a, c ≠ 32) ∧ w1 = wr)
    case atStart => exact ⟨0, rfl, by omega, hide (by simp), rfl⟩
    case round =>
      obtain ⟨a, rfl, hag, HA, rfl⟩ := hrel
      cases gk with
      | zero =>
        obtain rfl : a = s.size := by omega
        go_wp2_with fail
        go_meet
        exact ⟨s.size, rfl, hide ⟨Nat.le_refl _, HA.out, .inl rfl⟩, Int.le_refl _, rfl⟩
      | succ g0 =>
        have ha : a < s.size := by omega
        have hai : (a : Int) < s.size := by omega
        have ha0 : (0 : Int) ≤ a := by omega
        have HBy := hide (at_byte s a ha)
        by_cases h32 : (s[a].toNat : Int) = 32
        · have h3 : ((s[a].toNat : Int) != 32) = false := by rw [h32]; rfl
          have HS := hide (show BlankAt s a from ⟨by omega, HA.out, .inr (by rw [HBy.out]; congr 1; apply UInt8.toNat_inj.1; show s[a].toNat = 32; omega)⟩)
          clear HA HBy
          go_wp2_with fail
          go_meet
          exact ⟨a, rfl, HS, by omega, rfl⟩
        · have h3 : ((s[a].toNat : Int) != 32) = true := by simpa using h32
          have HN := hide (show ∀ c ∈ (toL s).take (a + 1), c ≠ 32 from fun c hc => by
            rw [List.take_add_one, HBy.out] at hc
            rcases List.mem_append.1 hc with hc | hc
            · exact HA.out c hc
            · simp at hc
              rw [hc]
              intro e
              apply h32
              rw [e]; rfl)
          have HNn := HN
          clear HA HBy
          go_wp2_with fail
          go_roundg g0
          case rel => exact ⟨a + 1, rfl, by omega, HN, rfl⟩
          case measure => omega
  case rest =>
  obtain ⟨a, rfl, HBl, hal, rfl⟩ := hcut
  have m0 : w1.frozen? ⟨w.heap.size, 0, none⟩ = false := frozen_of_row _ _ _ _ _ HR1.out
  have m1 : w1.frozen? ⟨w.heap.size, 1, none⟩ = false := frozen_of_row _ _ _ _ _ HR1.out
  have n0 : w1.cell? ⟨w.heap.size, 0, none⟩ = some (.int .i64 0) := cell_of_row _ _ _ _ _ _ HR1.out
  have n1 : w1.cell? ⟨w.heap.size, 1, none⟩ = some (.int .i64 0) := cell_of_row _ _ _ _ _ _ HR1.out
  have HP := hide (pair_put w1 w.heap.size _ _ (.int .i64 0) (.int .i64 0) _ HR1.out)
  have HAt := hide (show ∀ j n, OkJ j n → toL s = lineJ j n → a = (wordJ j).length from fun j n hk he => one_at hk he HBl.out.2.1 (by rw [size_toL]; exact HBl.out.2.2))
  go_upto_block 2 with fail
  go_cut [4, 6] (fun nv iv wx => ∃ m : Nat, nv = .int .i64 m ∧ (m : Int) ≤ 99999999999 ∧ Hid (∀ j n, OkJ j n → toL s = lineJ j n → n = (m : Nat)) ∧ w1 = wx)
  case first =>
    go_wp2_with fail
    go_loopg [4, 6] (s.size - a) (fun gk nv iv wr => ∃ i m : Nat, nv = .int .i64 m ∧ iv = .int .i64 i ∧ i + gk = s.size + 1 ∧ a + 1 ≤ i ∧ Hid (i = a + 1 ∨ i + 1 ≤ s.size) ∧ Hid (m = valJ 0 (segJ (toL s) a i) ∧ (∀ c ∈ segJ (toL s) a i, 48 ≤ c.toNat ∧ c.toNat ≤ 57)) ∧ (i : Int) ≤ a + 11 ∧ Hid (m < 10 ^ (i - (a + 1))) ∧ w1 = wr)
    case atStart => exact ⟨a + 1, 0, rfl, rfl, by omega, Nat.le_refl _, hide (.inl rfl), hide (by rw [seg_start]; exact ⟨rfl, by simp⟩), by omega, hide (by simp), rfl⟩
    case round =>
      obtain ⟨i, m, rfl, rfl, hig, hai, HI, HM, hi11, HMB, rfl⟩ := hrel
      have hsl : (1 : Int) ≤ s.size := by have := HNe.out; omega
      have hmb : (m : Int) ≤ 99999999999 := by
        have h := HMB.out
        have h2 : 10 ^ (i - (a + 1)) ≤ 10 ^ 10 := Nat.pow_le_pow_right (by omega) (by omega)
        omega
      by_cases c1 : (i : Int) < s.size - 1
      · by_cases c2 : (i : Int) < a + 11
        · have hil : i < s.size := by omega
          have hili : (i : Int) < s.size := by omega
          have hi0 : (0 : Int) ≤ i := by omega
          have HBy := hide (at_byte s i hil)
          have hmb9 : (m : Int) ≤ 9999999999 := by
            have h := HMB.out
            have h2 : 10 ^ (i - (a + 1)) ≤ 10 ^ 9 := Nat.pow_le_pow_right (by omega) (by omega)
            omega
          cases gk with
          | zero => omega
          | succ g0 =>
            by_cases d1 : (s[i].toNat : Int) < 48
            · have HE := hide (show recV (toL s) = #[.agg #[.int .i64 0, .int .i64 0], .bool false] by
                unfold recV
                rw [recJ_none (fun j n hk he => by
                  have h := one_digit hk he (HAt.out j n hk he) hai (by rw [size_toL]; omega) HBy.out
                  omega)])
              clear HI HM HMB HBy HAt HBl
              go_wp2_with fail
              refine bodyPost_ret (results_row2 (P := Tryd.prog) rfl _ _ w.heap.size _ _ _ _ rfl HP.out.2 Tryd.underlying33 rfl (by kernel_rfl)) rfl ⟨by rw [HE.out]; rfl, HB1.out.trans HP.out.1⟩
            · by_cases d2 : (s[i].toNat : Int) > 57
              · have HE := hide (show recV (toL s) = #[.agg #[.int .i64 0, .int .i64 0], .bool false] by
                  unfold recV
                  rw [recJ_none (fun j n hk he => by
                    have h := one_digit hk he (HAt.out j n hk he) hai (by rw [size_toL]; omega) HBy.out
                    omega)])
                clear HI HM HMB HBy HAt HBl
                go_wp2_with fail
                refine bodyPost_ret (results_row2 (P := Tryd.prog) rfl _ _ w.heap.size _ _ _ _ rfl HP.out.2 Tryd.underlying33 rfl (by kernel_rfl)) rfl ⟨by rw [HE.out]; rfl, HB1.out.trans HP.out.1⟩
              · obtain ⟨d, hd⟩ : ∃ d : Nat, (d : Int) = (s[i].toNat : Int) - 48 := ⟨s[i].toNat - 48, by omega⟩
                have hw1 : IntKind.u8.wrap ((s[i].toNat : Int) - 48) = (s[i].toNat : Int) - 48 := by
                  obtain ⟨q, hq⟩ : ∃ q : Int, q = (s[i].toNat : Int) - 48 := ⟨_, rfl⟩
                  rw [← hq]
                  have h1 : 0 ≤ q := by omega
                  have h2 : q ≤ 9 := by omega
                  simp only [IntKind.wrap, IntKind.signed, IntKind.bits]
                  simp
                  omega
                have hw2 : IntKind.i64.wrap ((m : Int) * 10) = (m : Int) * 10 := IntWalk.i64_in _ (by omega)
                have HSeg := hide (seg_step hai HBy.out)
                have HDg := hide (show 48 ≤ (s[i]).toNat ∧ (s[i]).toNat ≤ 57 by omega)
                have HMN := hide (show m * 10 + d = valJ 0 (segJ (toL s) a (i + 1)) ∧ (∀ c ∈ segJ (toL s) a (i + 1), 48 ≤ c.toNat ∧ c.toNat ≤ 57) by
                  rw [HSeg.out]
                  refine ⟨?_, fun c hc => ?_⟩
                  · rw [val_snoc, ← HM.out.1]; omega
                  · rcases List.mem_append.1 hc with hc | hc
                    · exact HM.out.2 c hc
                    · simp at hc; rw [hc]; exact HDg.out)
                have HMBN := hide (show m * 10 + d < 10 ^ (i + 1 - (a + 1)) by
                  have h := HMB.out
                  rw [show i + 1 - (a + 1) = (i - (a + 1)) + 1 by omega, Nat.pow_succ]
                  omega)
                have HEq := hide (show (m : Int) * 10 + ((s[i].toNat : Int) - 48) = ((m * 10 + d : Nat) : Int) by omega)
                clear HAt HBl HM HMB HI HBy HSeg HDg hd
                go_wp2_with fail
                rw [HEq.out]
                go_roundg g0
                case rel => exact ⟨i + 1, m * 10 + d, rfl, rfl, by omega, by omega, hide (.inr (by omega)), HMN, by omega, HMBN, rfl⟩
                case measure => omega
        · have HN := hide (show ∀ j n, OkJ j n → toL s = lineJ j n → n = (m : Nat) from fun j n hk he => by
            rw [HM.out.1]
            exact one_num hk he (HAt.out j n hk he) hai (.inr (by omega)) (by rw [size_toL]; exact HI.out))
          clear HI HM HMB HAt HBl
          go_wp2_with fail
          go_meet
          exact ⟨m, rfl, by omega, HN, rfl⟩
      · have HN := hide (show ∀ j n, OkJ j n → toL s = lineJ j n → n = (m : Nat) from fun j n hk he => by
          rw [HM.out.1]
          exact one_num hk he (HAt.out j n hk he) hai (.inl (by rw [size_toL]; omega)) (by rw [size_toL]; exact HI.out))
        clear HI HM HMB HAt HBl
        go_wp2_with fail
        go_meet
        exact ⟨m, rfl, by omega, HN, rfl⟩
  case rest =>
  obtain ⟨m, rfl, hmb, HN, rfl⟩ := hcut
  clear HBl HAt
  go_wp2_with fail
  go_loopg [7] 4 (fun gk kv wr => ∃ k : Nat, kv = .int .i64 k ∧ k + gk = 5 ∧ 1 ≤ k ∧ Hid (∀ j n, OkJ j n → toL s = lineJ j n → (k : Int) ≤ j) ∧ Hid (Below w.heap.size w wr) ∧ Hid (wr.heap[w.heap.size]? = some (.cells #[.int .i64 0, .int .i64 0] 33 (0, 0))))
  case atStart => exact ⟨1, rfl, by omega, Nat.le_refl _, hide (fun j n h _ => h.1), HB1, HR1⟩
  case round =>
    clear m0 m1 n0 n1 HP
    obtain ⟨k, rfl, hkg, hk1, HI, HB, HR⟩ := hrel
    have m0 : wr.frozen? ⟨w.heap.size, 0, none⟩ = false := frozen_of_row _ _ _ _ _ HR.out
    have m1 : wr.frozen? ⟨w.heap.size, 1, none⟩ = false := frozen_of_row _ _ _ _ _ HR.out
    have n0 : wr.cell? ⟨w.heap.size, 0, none⟩ = some (.int .i64 0) := cell_of_row _ _ _ _ _ _ HR.out
    have n1 : wr.cell? ⟨w.heap.size, 1, none⟩ = some (.int .i64 0) := cell_of_row _ _ _ _ _ _ HR.out
    cases gk with
    | zero =>
      obtain rfl : k = 5 := by omega
      have HE := hide (show recV (toL s) = #[.agg #[.int .i64 0, .int .i64 0], .bool false] by unfold recV; rw [rec_out HI.out])
      have HP := hide (pair_put wr w.heap.size _ _ (.int .i64 0) (.int .i64 0) _ HR.out)
      have HN2 := hide (HB.out.trans HP.out.1)
      clear HI hkg
      go_wp2_with fail
      refine bodyPost_ret (results_row2 (P := Tryd.prog) rfl _ _ w.heap.size _ _ _ _ rfl HP.out.2 Tryd.underlying33 rfl (by kernel_rfl)) rfl ⟨by rw [HE.out]; rfl, HN2.out⟩
    | succ g0 =>
      have hk4 : (k : Int) ≤ 4 := by omega
      have HL := hide (fun W => refLine_any k (m : Int) W)
      have hq := same_text (lineB k (m : Int)) s
      rw [lineB_toL] at hq
      have HFd := hide (show lineJ k (m : Int) = toL s → recV (toL s) = #[.agg #[.int .i64 k, .int .i64 (m : Int)], .bool true] from fun h => by
        have hok : OkJ k (m : Int) := lineJ_ne.1 (by
          rw [h]
          intro e
          have h1 := HNe.out
          have h2 := size_toL s
          rw [e] at h2
          simp at h2
          omega)
        unfold recV
        rw [← h, recJ_line hok])
      have HNo := hide (show lineJ k (m : Int) ≠ toL s → ∀ j n, OkJ j n → toL s = lineJ j n → (k : Int) + 1 ≤ j from fun h => by
        refine not_below HI.out (fun n hk e => h ?_)
        have h2 := HN.out k n hk e
        rw [← h2, ← e])
      obtain ⟨LB, hLB⟩ : ∃ LB, LB = lineB k (m : Int) := ⟨_, rfl⟩
      rw [← hLB] at HL hq
      obtain ⟨b, hb⟩ : ∃ b, b = decide (lineJ k (m : Int) = toL s) := ⟨_, rfl⟩
      rw [← hb] at hq
      have Hb := hide hb
      clear hLB hb HI m0 m1 n0 n1
      go_wp2_with fail
      refine (HL.out _).mono ?_
      rintro e w5 ⟨rfl, hb5⟩
      have hr5 := (hb5.block _ (Array.getElem?_eq_some_iff.1 HR.out).1).trans HR.out
      have HB5 := hide (HB.out.trans (hb5.mono HB.out.size))
      have HR5 := hide hr5
      have z0 : w5.frozen? ⟨w.heap.size, 0, none⟩ = false := frozen_of_row _ _ _ _ _ hr5
      have z1 : w5.frozen? ⟨w.heap.size, 1, none⟩ = false := frozen_of_row _ _ _ _ _ hr5
      have d0 : w5.cell? ⟨w.heap.size, 0, none⟩ = some (.int .i64 0) := cell_of_row _ _ _ _ _ _ hr5
      have d1 : w5.cell? ⟨w.heap.size, 1, none⟩ = some (.int .i64 0) := cell_of_row _ _ _ _ _ _ hr5
      clear hr5 hb5
      rcases Bool.eq_false_or_eq_true b with hbt | hbf
      · have HE := hide (HFd.out (of_decide_eq_true (Hb.out.symm.trans hbt)))
        rw [hbt] at hq
        have HP := hide (pair_put w5 w.heap.size _ _ (.int .i64 k) (.int .i64 m) _ HR5.out)
        have HN2 := hide (HB5.out.trans HP.out.1)
        clear hbt
        go_wp2_with fail
        refine bodyPost_ret (results_row2 (P := Tryd.prog) rfl _ _ w.heap.size _ _ _ _ rfl HP.out.2 Tryd.underlying33 rfl (by kernel_rfl)) rfl ⟨by rw [HE.out]; rfl, HN2.out⟩
      · have HN2 := hide (HNo.out (of_decide_eq_false (Hb.out.symm.trans hbf)))
        rw [hbf] at hq
        clear hbf
        go_wp2_with fail
        go_roundg g0
        case rel => exact ⟨k + 1, rfl, by omega, by omega, hide (by have := HN2.out; simpa using this), HB5, HR5⟩
        case measure => omega
end Go.Proofs.YtggdndmjfbiaiaaDoor
