/-
  The law RuleChecks answers true.
-/
import Derived.Test.YthlalmehcpionaaDoorRuleAwake
import Derived.Deep.RegionHeld
namespace Go.Proofs.YthlalmehcpionaaDoor
open Go.RowKit
set_option maxRecDepth 100000

/-- A rule that lies there, in a world behind another one. -/
def RuleAt (w : World) (ad : Addr) (r : Bool × ByteArray) (W : World) : Prop := Below w.heap.size w W ∧ W.cell? ad = some (.bool r.1) ∧ W.cell? ⟨ad.block, ad.off + 1, none⟩ = some (.string r.2)
theorem RuleAt.step {w W W2 : World} {ad : Addr} {r : Bool × ByteArray} (h : RuleAt w ad r W) (hb : Below W.heap.size W W2) : RuleAt w ad r W2 :=
  ⟨h.1.trans (hb.mono h.1.size), (hb.cell (cell_lt h.2.1)).trans h.2.1, (hb.cell (cell_lt h.2.2)).trans h.2.2⟩

set_option maxHeartbeats 4000000 in
theorem ruleChecks_law (A : Option Addr) (l : List (Bool × ByteArray)) (c : Nat) (p : ByteArray) (dir : Bool) (w : World) (hR : RdR w w.heap.size A l) :
    Calls Tryd.prog 3 #[.slice A l.length c, .string p, .bool dir] w fun e w' => e = .returned (.bool true) ∧ Below w.heap.size w w' := by
  have HS := hide (small_any A l c w hR)
  have HA := hide (fun W => awake_any W)
  obtain ⟨sb, hsb⟩ : ∃ sb, sb = smallL l := ⟨_, rfl⟩
  rw [← hsb] at HS
  cases sb with
  | false =>
    clear hsb
    go_enter Tryd.func3, Tryd.ntmps3
    go_wp2_with fail
    refine (HS.out).mono ?_
    rintro e w1 ⟨rfl, rfl⟩
    go_wp2_with fail
    refine (HA.out _).mono ?_
    rintro e w2 ⟨rfl, hb2⟩
    go_wp2_with fail
    exact bodyPost_ret (results_tmp rfl _ _ _) rfl ⟨rfl, hb2⟩
  | true =>
    obtain ⟨hf, hl⟩ := small_few hsb.symm
    by_cases h200 : (200 : Int) < p.size
    · clear hsb hf hl
      go_enter Tryd.func3, Tryd.ntmps3
      go_wp2_with fail
      refine (HS.out).mono ?_
      rintro e w1 ⟨rfl, rfl⟩
      go_wp2_with fail
      refine (HA.out _).mono ?_
      rintro e w2 ⟨rfl, hb2⟩
      go_wp2_with fail
      exact bodyPost_ret (results_tmp rfl _ _ _) rfl ⟨rfl, hb2⟩
    · obtain ⟨b1, hb1⟩ : ∃ b, b = checkAllL (rulesL l) := ⟨_, rfl⟩
      have H1 := hide (fun (W : World) (h : RdR W W.heap.size A l) => checkAll_any A l c W h hf (by omega))
      have H2 := hide (fun (W : World) (h : RdR W W.heap.size A l) => refCheckAll_any A l c W h hf (by omega))
      rw [← hb1] at H1 H2
      have HF := hide hf
      clear hsb hf hb1
      go_enter Tryd.func3, Tryd.ntmps3
      go_wp2_with fail
      refine (HS.out).mono ?_
      rintro e w1 ⟨rfl, rfl⟩
      go_wp2_with fail
      go_loopg [7] l.length (fun gk iv wr => ∃ i : Nat, iv = .int .i64 i ∧ i + gk = l.length ∧ Below w1.heap.size w1 wr ∧ RdR wr wr.heap.size A l)
      case atStart => exact ⟨0, rfl, by omega, Below.refl _ _, hR⟩
      case round =>
        obtain ⟨i, rfl, hig, hB, hRr⟩ := hrel
        clear hR HS
        cases gk with
        | zero =>
          obtain rfl : i = l.length := by omega
          clear hig
          go_wp2_with fail
          refine (HA.out _).mono ?_
          rintro e w2 ⟨rfl, k2⟩
          have r2 := hRr.step k2
          go_wp2_with fail
          refine (H1.out _ r2).mono ?_
          rintro e w3 ⟨rfl, k3⟩
          have r3 := r2.step k3
          go_wp2_with fail
          refine (H2.out _ r3).mono ?_
          rintro e w4 ⟨rfl, k4⟩
          have q2 := hB.trans (k2.mono hB.size)
          have q3 := q2.trans (k3.mono q2.size)
          have q4 := q3.trans (k4.mono q3.size)
          clear H1 H2 hRr r2 r3 k2 k3 k4 hB q2 q3
          go_wp2_with fail
          exact bodyPost_ret (results_tmp rfl _ _ _) rfl ⟨by simp, q4⟩
        | succ g0 =>
          have hii : (i : Int) < l.length := by omega
          obtain ⟨r, hr⟩ : ∃ r, l[i]? = some r := ⟨_, List.getElem?_eq_getElem (by omega)⟩
          obtain ⟨ad, rfl, hlt, c0, c1⟩ := hRr i r hr
          obtain ⟨K, hK⟩ : ∃ K, K = checkL (toL r.2) := ⟨_, rfl⟩
          obtain ⟨M, hM⟩ : ∃ M, M = matchesL (toL r.2) (toL p) dir := ⟨_, rfl⟩
          have hfr := HF.out i r hr
          have C1 := hide (fun W => check_any r.1 r.2 W hfr)
          have C2 := hide (fun W => refCheck_any r.1 r.2 W hfr)
          have C3 := hide (fun W => matches_any r.1 dir r.2 p W hfr (by omega))
          have C4 := hide (fun W => refMatches_any r.1 dir r.2 p W hfr (by omega))
          rw [← hK] at C1 C2
          rw [← hM] at C3 C4
          have hiw : IntKind.i64.wrap ((i : Int) + 1) = ((i + 1 : Nat) : Int) := by rw [IntWalk.i64_in _ (by omega)]; rfl
          have hS0 : RuleAt wr (ad.add (i * 2)) r wr.drew := ⟨⟨rfl, rfl, rfl, Nat.le_refl _, fun _ _ => rfl⟩, c0, c1⟩
          have HRr := hide hRr
          clear hK hM hfr hr hRr
          go_wp2_with fail
          refine wp_region_noPanic ?_
          go_region_held (fun w' => Below wr.heap.size wr w' ∧ w'.cell? (ad.add (i * 2)) = some (.bool r.1) ∧ w'.cell? ⟨(ad.add (i * 2)).block, (ad.add (i * 2)).off + 1, none⟩ = some (.string r.2))
            (first
              | assumption
              | exact hS0
              | exact RuleAt.step (by assumption) hba)
            (first
              | (go_at_call 9; refine (C1.out _).mono ?_; rintro e wa ⟨rfl, hba⟩)
              | (go_at_call 10; refine (C2.out _).mono ?_; rintro e wa ⟨rfl, hba⟩)
              | (go_at_call 11; refine (C3.out _).mono ?_; rintro e wa ⟨rfl, hba⟩)
              | (go_at_call 12; refine (C4.out _).mono ?_; rintro e wa ⟨rfl, hba⟩))
          all_goals
            rename_i hH
            refine NoPanic.normal ?_
            have hBz := hB.trans (hH.1.mono hB.size)
            have hRz := HRr.out.step hH.1
            clear hH hS0 c0 c1 hB
            go_wp2_with fail
            go_roundg g0
            case rel => exact ⟨i + 1, rfl, by omega, hBz, hRz⟩
            case measure => omega
end Go.Proofs.YthlalmehcpionaaDoor
