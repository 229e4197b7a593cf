/-
  The page's examples, and which rules are tried.
-/
import Derived.Test.YthlalmehcpionaaDoorRuleLay
import Derived.Test.YthlalmehcpionaaDoorRuleShut
namespace Go.Proofs.YthlalmehcpionaaDoor
open Go.RowKit
set_option maxRecDepth 100000

theorem ruleParse_any (s : ByteArray) (w : World) (hs : (s.size : Int) ≤ 1000000) : Calls Tryd.prog 21 #[.string s] w (ParseTo s w) := callsIn_wide.1 (parse_in s w hs)
theorem ex_parse : parseE 0 (linesL [45, 32, 98, 47, 10]) = (0, 0) := by decide +kernel
theorem ex_rules : (linesL [45, 32, 98, 47, 10]).map oneR = [(false, [98, 47])] := by decide +kernel
theorem ex_shut1 : shutL [(false, [98, 47])] [97, 47, 98] true = true := by decide +kernel
theorem ex_shut2 : shutL [(false, [98, 47])] [97, 47, 98, 47, 99] false = true := by decide +kernel
theorem ex_shut3 : shutL [(false, [98, 47])] [97, 47, 98] false = false := by decide +kernel
theorem ex_match : matchesL [47, 98] [97, 47, 98] true = false := by decide +kernel

set_option maxHeartbeats 4000000 in
theorem awake_any (w : World) : Calls Tryd.prog 8 #[] w fun e w' => e = .returned (.bool true) ∧ Below w.heap.size w w' := by
  have HP := hide (fun W => ruleParse_any ⟨#[45, 32, 98, 47, 10]⟩ W (by decide))
  have HM := hide (fun W => matches_any false true ⟨#[47, 98]⟩ ⟨#[97, 47, 98]⟩ W (by decide) (by decide))
  rw [show matchesL (toL ⟨#[47, 98]⟩) (toL ⟨#[97, 47, 98]⟩) true = false from ex_match] at HM
  go_enter Tryd.func8, Tryd.ntmps8
  go_wp2_with fail
  refine (HP.out _).mono ?_
  rintro e w1 ⟨hB, ⟨hbad, _⟩ | ⟨_, A, rs, c, rfl, hrs, hR, hf, hl⟩⟩
  · exact absurd (congrArg Prod.snd ex_parse) hbad
  · rw [show (linesL (toL ⟨#[45, 32, 98, 47, 10]⟩)).map oneR = [(false, [98, 47])] from ex_rules] at hrs
    obtain ⟨r, rfl⟩ : ∃ r, rs = [r] := by
      have h1 : rs.length = 1 := by have := congrArg List.length hrs; simpa [rulesL] using this
      exact List.length_eq_one_iff.1 h1
    have hfew : Few [r] := fun k q hq => by
      have h := hf k q hq
      have h5 : (ByteArray.mk #[45, 32, 98, 47, 10]).size = 5 := rfl
      omega
    have HS := hide (fun (p : ByteArray) (dir b : Bool) (W : World) (hp : (p.size : Int) ≤ 1000000) (hb : shutL [(false, [98, 47])] (toL p) dir = b) (h : RdR W W.heap.size A [r]) => (show Calls Tryd.prog 17 #[.slice A 1 c, .string p, .bool dir] W fun e w' => e = .returned (.bool b) ∧ Below W.heap.size W w' from by
      have h2 := shut_any A [r] c p dir W h hfew (by show (1 : Int) ≤ 1000000; decide) hp
      rw [hrs, hb] at h2
      exact h2))
    clear hrs hf hl hfew HP
    go_wp2_with fail
    refine (HS.out ⟨#[97, 47, 98]⟩ true true _ (by decide) ex_shut1 hR).mono ?_
    rintro e w2 ⟨rfl, hb2⟩
    go_wp2_with fail
    refine (HS.out ⟨#[97, 47, 98, 47, 99]⟩ false true _ (by decide) ex_shut2 (hR.step hb2)).mono ?_
    rintro e w3 ⟨rfl, hb3⟩
    go_wp2_with fail
    refine (HS.out ⟨#[97, 47, 98]⟩ false false _ (by decide) ex_shut3 ((hR.step hb2).step hb3)).mono ?_
    rintro e w4 ⟨rfl, hb4⟩
    go_wp2_with fail
    refine (HM.out _).mono ?_
    rintro e w5 ⟨rfl, hb5⟩
    go_wp2_with fail
    have h2 := hB.trans (hb2.mono hB.size)
    have h3 := h2.trans (hb3.mono h2.size)
    have h4 := h3.trans (hb4.mono h3.size)
    exact bodyPost_ret (results_tmp rfl _ _ _) rfl ⟨rfl, h4.trans (hb5.mono h4.size)⟩

/-- Are rules tried? -/
def smallL (l : List (Bool × ByteArray)) : Bool := decide (l.length ≤ 20) && l.all fun r => decide (r.2.size ≤ 100)
set_option maxHeartbeats 2000000 in
theorem small_any (A : Option Addr) (l : List (Bool × ByteArray)) (c : Nat) (w : World) (hA : RdR w w.heap.size A l) :
    Calls Tryd.prog 7 #[.slice A l.length c] w fun e w' => e = .returned (.bool (smallL l)) ∧ w' = w := by
  obtain ⟨V, hV⟩ : ∃ V, V = smallL l := ⟨_, rfl⟩
  rw [← hV]
  by_cases h20 : (20 : Int) < l.length
  · have HV := hide (show V = false by rw [hV]; unfold smallL; rw [decide_eq_false (by omega)]; rfl)
    clear hV hA
    go_enter Tryd.func7, Tryd.ntmps7
    go_wp2_with fail
    exact bodyPost_ret (results_tmp rfl _ _ _) rfl ⟨by rw [HV.out]; rfl, rfl⟩
  · have HV := hide (show V = l.all fun r => decide (r.2.size ≤ 100) by rw [hV]; unfold smallL; rw [decide_eq_true (by omega)]; rfl)
    clear hV
    go_enter Tryd.func7, Tryd.ntmps7
    go_wp2_with fail
    go_loopg [3] l.length (fun gk iv wr => ∃ i : Nat, iv = .int .i64 i ∧ i + gk = l.length ∧ Hid (((l.drop i).all fun r => decide (r.2.size ≤ 100)) = V) ∧ wr = w)
    case atStart => exact ⟨0, rfl, by omega, hide (by rw [HV.out]; rfl), rfl⟩
    case round =>
      obtain ⟨i, rfl, hig, HB, rfl⟩ := hrel
      cases gk with
      | zero =>
        obtain rfl : i = l.length := by omega
        have HE := hide (show V = true by rw [← HB.out, List.drop_length]; rfl)
        clear HB
        go_wp2_with fail
        exact bodyPost_ret (results_tmp rfl _ _ _) rfl ⟨by rw [HE.out]; rfl, rfl⟩
      | succ g0 =>
        have hii : (i : Int) < l.length := by omega
        obtain ⟨r, hr⟩ : ∃ r, l[i]? = some r := ⟨_, List.getElem?_eq_getElem (by omega)⟩
        obtain ⟨ad, rfl, hlt, c0, c1⟩ := hA i r hr
        have hd := HB.out
        obtain ⟨hlt2, er⟩ := List.getElem?_eq_some_iff.1 hr
        rw [List.drop_eq_getElem_cons hlt2, er, List.all_cons] at hd
        have hiw : IntKind.i64.wrap ((i : Int) + 1) = ((i + 1 : Nat) : Int) := by rw [IntWalk.i64_in _ (by omega)]; rfl
        by_cases h100 : (100 : Int) < r.2.size
        · rw [decide_eq_false (by omega), Bool.false_and] at hd
          have HD := hide hd
          clear hd HB hr er hlt2
          go_wp2_with fail
          exact bodyPost_ret (results_tmp rfl _ _ _) rfl ⟨by rw [← HD.out]; rfl, rfl⟩
        · rw [decide_eq_true (by omega), Bool.true_and] at hd
          have HD := hide hd
          clear hd HB hr er hlt2
          go_wp2_with fail
          go_roundg g0
          case rel => exact ⟨i + 1, rfl, by omega, HD, rfl⟩
          case measure => omega
theorem small_few {l : List (Bool × ByteArray)} (h : smallL l = true) : Few l ∧ (l.length : Int) ≤ 20 := by
  unfold smallL at h
  rw [Bool.and_eq_true, decide_eq_true_eq, List.all_eq_true] at h
  refine ⟨fun k r hk => ?_, by omega⟩
  have := of_decide_eq_true (h.2 r (List.mem_of_getElem? hk))
  omega
end Go.Proofs.YthlalmehcpionaaDoor
