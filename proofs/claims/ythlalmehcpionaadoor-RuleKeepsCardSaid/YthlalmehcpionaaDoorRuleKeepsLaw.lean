/-
  The law RuleKeeps answers true.
-/
import Derived.Test.YthlalmehcpionaaDoorRuleAwake
namespace Go.Proofs.YthlalmehcpionaaDoor
open Go.RowKit
set_option maxRecDepth 100000

set_option maxHeartbeats 4000000 in
theorem ruleKeeps_law (A : Option Addr) (l : List (Bool × ByteArray)) (c : Nat) (p : ByteArray) (dir : Bool) (w : World) (hR : RdR w w.heap.size A l) :
    Calls Tryd.prog 4 #[.slice A l.length c, .string p, .bool dir] w fun e w' => e = .returned (.bool true) ∧ Below w.heap.size w w' := by
  have HS := hide (small_any A l c w hR)
  have HA := hide (fun W => awake_any W)
  obtain ⟨sb, hsb⟩ : ∃ sb, sb = smallL l := ⟨_, rfl⟩
  rw [← hsb] at HS
  cases sb with
  | false =>
    clear hsb
    go_enter Tryd.func4, Tryd.ntmps4
    go_wp2_with fail
    refine (HS.out).mono ?_
    rintro e w1 ⟨rfl, rfl⟩
    go_wp2_with fail
    refine (HA.out _).mono ?_
    rintro e w2 ⟨rfl, hb2⟩
    go_wp2_with fail
    exact bodyPost_ret (results_tmp rfl _ _ _) rfl ⟨rfl, hb2⟩
  | true =>
    obtain ⟨hf, hl⟩ := small_few hsb.symm
    by_cases h200 : (200 : Int) < p.size
    · clear hsb hf hl
      go_enter Tryd.func4, Tryd.ntmps4
      go_wp2_with fail
      refine (HS.out).mono ?_
      rintro e w1 ⟨rfl, rfl⟩
      go_wp2_with fail
      refine (HA.out _).mono ?_
      rintro e w2 ⟨rfl, hb2⟩
      go_wp2_with fail
      exact bodyPost_ret (results_tmp rfl _ _ _) rfl ⟨rfl, hb2⟩
    · obtain ⟨b1, hb1⟩ : ∃ b, b = keepsL (toL p) dir (rulesL l) := ⟨_, rfl⟩
      obtain ⟨b2, hb2⟩ : ∃ b, b = shutL (rulesL l) (toL p) dir := ⟨_, rfl⟩
      have H1 := hide (fun (W : World) (h : RdR W W.heap.size A l) => keeps_any A l c p dir W h hf (by omega) (by omega))
      have H2 := hide (fun (W : World) (h : RdR W W.heap.size A l) => refKeeps_any A l c p dir W h hf (by omega) (by omega))
      have H3 := hide (fun (W : World) (h : RdR W W.heap.size A l) => shut_any A l c p dir W h hf (by omega) (by omega))
      have H4 := hide (fun (W : World) (h : RdR W W.heap.size A l) => refShut_any A l c p dir W h hf (by omega) (by omega))
      rw [← hb1] at H1 H2
      rw [← hb2] at H3 H4
      clear hsb hf hl hb1 hb2
      go_enter Tryd.func4, Tryd.ntmps4
      go_wp2_with fail
      refine (HS.out).mono ?_
      rintro e w1 ⟨rfl, rfl⟩
      go_wp2_with fail
      refine (HA.out _).mono ?_
      rintro e w2 ⟨rfl, k2⟩
      have r2 := hR.step k2
      go_wp2_with fail
      refine (H1.out _ r2).mono ?_
      rintro e w3 ⟨rfl, k3⟩
      have r3 := r2.step k3
      go_wp2_with fail
      refine (H2.out _ r3).mono ?_
      rintro e w4 ⟨rfl, k4⟩
      have r4 := r3.step k4
      go_wp2_with fail
      refine (H3.out _ r4).mono ?_
      rintro e w5 ⟨rfl, k5⟩
      have r5 := r4.step k5
      go_wp2_with fail
      refine (H4.out _ r5).mono ?_
      rintro e w6 ⟨rfl, k6⟩
      have q3 := k2.trans (k3.mono k2.size)
      have q4 := q3.trans (k4.mono q3.size)
      have q5 := q4.trans (k5.mono q4.size)
      have q6 := q5.trans (k6.mono q5.size)
      clear H1 H2 H3 H4 r2 r3 r4 r5 k2 k3 k4 k5 k6 q3 q4 q5
      go_wp2_with fail
      exact bodyPost_ret (results_tmp rfl _ _ _) rfl ⟨by simp, q6⟩
end Go.Proofs.YthlalmehcpionaaDoor
