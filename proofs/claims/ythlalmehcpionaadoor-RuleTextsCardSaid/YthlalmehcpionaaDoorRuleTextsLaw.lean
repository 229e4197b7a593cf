/-
  The law RuleTexts answers true.
-/
import Derived.Test.YthlalmehcpionaaDoorRuleTextsMath
namespace Go.Proofs.YthlalmehcpionaaDoor
open Go.RowKit
set_option maxRecDepth 100000

set_option maxHeartbeats 4000000 in
theorem texts_awake (A : Option Addr) (l : List (Bool × ByteArray)) (c : Nat) (s : ByteArray) (w : World) (hR : RdR w w.heap.size A l) (h : smallL l = false ∨ (smallL l = true ∧ (2000 : Int) < s.size)) :
    Calls Tryd.prog 6 #[.slice A l.length c, .string s] w fun e w' => e = .returned (.bool true) ∧ Below w.heap.size w w' := by
  have HS := hide (small_any A l c w hR)
  have HA := hide (fun W => awake_any W)
  rcases h with h | ⟨h, h1⟩
  all_goals
    rw [h] at HS
    clear h
    go_enter Tryd.func6, Tryd.ntmps6
    go_wp2_with fail
    refine (HS.out).mono ?_
    rintro e w1 ⟨rfl, rfl⟩
    go_wp2_with fail
    refine (HA.out _).mono ?_
    rintro e w2 ⟨rfl, hb2⟩
    go_wp2_with fail
    exact bodyPost_ret (results_tmp rfl _ _ _) rfl ⟨rfl, hb2⟩

/-- Is there a line feed in one of these rules? -/
def feedsR (l : List (Bool × ByteArray)) : Bool := l.any fun r => feedL (toL r.2)
theorem feedsR_rules (l : List (Bool × ByteArray)) : feedsR l = (rulesL l).any fun r => feedL r.2 := by
  unfold feedsR rulesL; rw [List.any_map]; rfl
theorem feeds_take (l : List (Bool × ByteArray)) (i : Nat) (r : Bool × ByteArray) (h : l[i]? = some r) : feedsR (l.take (i + 1)) = (feedsR (l.take i) || feedL (toL r.2)) := by
  obtain ⟨h1, h2⟩ := List.getElem?_eq_some_iff.1 h
  unfold feedsR
  rw [List.take_succ_eq_append_getElem h1, h2, List.any_append]
  simp
theorem feed_take (p : ByteArray) (k : Nat) (h : k < p.size) : feedL ((toL p).take (k + 1)) = (feedL ((toL p).take k) || p[k] == 10) := by
  have h1 : k < (toL p).length := by rw [size_toL]; exact h
  unfold feedL
  rw [List.take_succ_eq_append_getElem h1, List.any_append]
  rw [List.any_cons, List.any_nil, Bool.or_false]
  rfl
/-- What the law knows of what Parse tells of the rules' own text. -/
theorem back_of {l rs : List (Bool × ByteArray)} {g : ByteArray} (hg : toL g = textsL (rulesL l)) (hf : feedsR l = false) (hc : checkAllL (rulesL l) = 0) :
    parseE 0 (linesL (toL g)) = (0, 0) ∧ (rulesL rs = (linesL (toL g)).map oneR → rs = l) := by
  rw [feedsR_rules] at hf
  obtain ⟨h1, h2⟩ := parse_back hf hc
  rw [← hg] at h1 h2
  exact ⟨h1, fun h => rulesL_inj (h.trans h2)⟩

theorem small_each {l : List (Bool × ByteArray)} (h : smallL l = true) (k : Nat) (r : Bool × ByteArray) (hk : l[k]? = some r) : (r.2.size : Int) ≤ 100 := by
  unfold smallL at h
  rw [Bool.and_eq_true, decide_eq_true_eq, List.all_eq_true] at h
  have := of_decide_eq_true (h.2 r (List.mem_of_getElem? hk))
  omega
/-- What Parse answers, with letters for its numbers. -/
theorem ParseTo.parts {s : ByteArray} {w w' : World} {e : Ending} (h : ParseTo s w e w') : Below w.heap.size w w' ∧ ((∃ N E : Nat, Hid (parseE 0 (linesL (toL s)) = (N, E)) ∧ E ≠ 0 ∧ e = .returned (.tuple #[.slice none 0 0, .int .i64 (N : Nat), .int .i64 (E : Nat)])) ∨
    (Hid (parseE 0 (linesL (toL s)) = (0, 0)) ∧ ∃ (A : Option Addr) (rs : List (Bool × ByteArray)) (c : Nat), e = .returned (.tuple #[.slice A rs.length c, .int .i64 0, .int .i64 0]) ∧ Hid (rulesL rs = (linesL (toL s)).map oneR) ∧ RdR w' w'.heap.size A rs ∧ Hid (∀ (k : Nat) (r : Bool × ByteArray), rs[k]? = some r → r.2.size ≤ s.size) ∧ rs.length ≤ 16)) := by
  obtain ⟨hb, ⟨h1, h2⟩ | ⟨h1, A, rs, c, h2, h3, h4, h5, h6⟩⟩ := h
  · exact ⟨hb, .inl ⟨_, _, rfl, h1, h2⟩⟩
  · exact ⟨hb, .inr ⟨h1, A, rs, c, h2, h3, h4, h5, h6⟩⟩
set_option maxHeartbeats 32000000 in
theorem texts_main (A : Option Addr) (l : List (Bool × ByteArray)) (c : Nat) (s : ByteArray) (w : World) (hR : RdR w w.heap.size A l) (hsm : smallL l = true) (hs : ¬ (2000 : Int) < s.size) :
    Calls Tryd.prog 6 #[.slice A l.length c, .string s] w fun e w' => e = .returned (.bool true) ∧ Below w.heap.size w w' := by
  have HS := hide (small_any A l c w hR)
  rw [hsm] at HS
  have HA := hide (fun W => awake_any W)
  obtain ⟨hf, hl⟩ := small_few hsm
  have HSz := hide (small_texts hsm)
  have HEach := hide (small_each hsm)
  have HT1 := hide (fun (W : World) (h : RdR W W.heap.size A l) => textR_any A l c W h hf (by omega))
  have HT2 := hide (fun (W : World) (h : RdR W W.heap.size A l) => refTextR_any A l c W h hf (by omega))
  have HP1 := hide (fun (W : World) => ruleParse_any s W (by omega))
  have HP2 := hide (fun (W : World) => refParseR_any s W (by omega))
  obtain ⟨V, hV⟩ : ∃ V, V = checkAllL (rulesL l) := ⟨_, rfl⟩
  have HC := hide (fun (W : World) (h : RdR W W.heap.size A l) => refCheckAll_any A l c W h hf (by omega))
  rw [← hV] at HC
  have HV := hide hV
  clear hsm hf hV
  go_enter Tryd.func6, Tryd.ntmps6
  go_wp2_with fail
  refine (HS.out).mono ?_
  rintro e w1 ⟨rfl, rfl⟩
  clear HS
  go_wp2_with fail
  refine (HT1.out _ hR).mono ?_
  rintro e w2 ⟨⟨g, rfl, hg⟩, hb2⟩
  have HG := hide hg
  have hgs : (g.size : Int) ≤ 2060 := by have h := HSz.out; rw [← hg, size_toL] at h; omega
  have hR2 := hR.step hb2
  clear hg hR
  go_wp2_with fail
  refine (HP1.out _).mono ?_
  intro e w3 hpt3
  obtain ⟨hb3, hcase3⟩ := hpt3.parts
  clear hpt3
  have hR3 := hR2.step hb3
  have hB3 := hb2.trans (hb3.mono hb2.size)
  clear hR2 hb2 hb3
  rcases hcase3 with ⟨N, E, HE, hE0, rfl⟩ | ⟨HE, A1, rs1, c1, rfl, HRs1, hrd1, HFs1, hl1⟩
  · have HE0 := hide hE0
    have hk1 : ((E : Int) == 0) = false := by rw [beq_eq_false_iff_ne]; omega
    have hk2 : ((E : Int) != 0) = true := by rw [bne, hk1]; rfl
    clear hE0
    go_wp2_with fail
    refine (HP2.out _).mono ?_
    intro e w4 hpt4
    obtain ⟨hb4, ⟨N2, E2, HE2, _, rfl⟩ | ⟨HE2, _⟩⟩ := hpt4.parts
    · clear hpt4
      obtain ⟨rfl, rfl⟩ : N = N2 ∧ E = E2 := by
        have h := HE.out.symm.trans HE2.out
        exact ⟨congrArg Prod.fst h, congrArg Prod.snd h⟩
      have hR4 := hR3.step hb4
      have hB4 := hB3.trans (hb4.mono hB3.size)
      clear hR3 hB3 hb4
      go_wp2_with fail
      refine (HT2.out _ hR4).mono ?_
      rintro e w5 ⟨⟨g2, rfl, hg2⟩, rfl⟩
      obtain rfl : g = g2 := toL_inj2 (HG.out.trans hg2.symm)
      clear hg2
      have HSm := hide (refSame_eq none none [] 0 0 w5 (RdR.nil _ _ _) (RdR.nil _ _ _) (by decide))
      go_wp2_with fail
      refine (HSm.out).mono ?_
      rintro e w6 ⟨rfl, hb6⟩
      have hR6 := hR4.step hb6
      have hB6 := hB4.trans (hb6.mono hB4.size)
      clear hR4 hB4 hb6 HSm
      clear HT1 HT2 HP1 HP2
      go_wp2_with fail
      go_loopg [12, 13] l.length (fun gk fv iv wr => ∃ i : Nat, iv = .int .i64 i ∧ fv = .bool (feedsR (l.take i)) ∧ i + gk = l.length ∧ wr = w6)
      case atStart => exact ⟨0, rfl, by simp [feedsR], by omega, rfl⟩
      case round =>
        obtain ⟨i, rfl, rfl, hig, rfl⟩ := hrel
        cases gk with
        | zero =>
          obtain rfl : i = l.length := by omega
          rw [List.take_length]
          obtain ⟨fd, hfd⟩ : ∃ fd, fd = feedsR l := ⟨_, rfl⟩
          rw [← hfd]
          have HFd := hide hfd
          have HPg := hide (fun (W : World) => ruleParse_any g W (by omega))
          clear hfd hig
          go_wp2_with fail
          refine (HPg.out _).mono ?_
          intro e w7 hpt7
          obtain ⟨hb7, hcase7⟩ := hpt7.parts
          clear hpt7
          have hR7 := hR6.step hb7
          have hB7 := hB6.trans (hb7.mono hB6.size)
          clear hR6 hB6 hb7 HPg
          cases fd with
          | true =>
            rcases hcase7 with ⟨N3, E3, _, hE3, rfl⟩ | ⟨_, A3, rs3, c3, rfl, _, _, _, _⟩
            all_goals
              go_wp2_with fail
              refine (HA.out _).mono ?_
              rintro e w8 ⟨rfl, hb8⟩
              have HB8 := hide (hB7.trans (hb8.mono hB7.size))
              clear hb8 hB7
              go_wp2_with fail
              exact bodyPost_ret (results_tmp rfl _ _ _) rfl ⟨by simp, HB8.out⟩
          | false =>
            by_cases hV0 : V = 0
            · subst hV0
              have hbk := fun rs => back_of (rs := rs) HG.out HFd.out.symm HV.out.symm
              rcases hcase7 with ⟨N3, E3, HE3, hE7, rfl⟩ | ⟨_, A3, rs3, c3, rfl, hrs3, hrd3, _, _⟩
              · exact absurd (congrArg Prod.snd (HE3.out.symm.trans (hbk []).1)) hE7
              · obtain rfl : rs3 = l := (hbk rs3).2 hrs3.out
                clear hbk hrs3
                go_wp2_with fail
                refine (HA.out _).mono ?_
                rintro e w8 ⟨rfl, hb8⟩
                have hR8 := hR7.step hb8
                have hB8 := hB7.trans (hb8.mono hB7.size)
                have hrd8 := hrd3.step hb8
                clear hR7 hB7 hb8 hrd3
                go_wp2_with fail
                refine (HC.out _ hR8).mono ?_
                rintro e w9 ⟨rfl, hb9⟩
                have hR9 := hR8.step hb9
                have hB9 := hB8.trans (hb9.mono hB8.size)
                have hrd9 := hrd8.step hb9
                have HSm := hide (refSame_eq A3 A rs3 c3 c w9 hrd9 hR9 (by omega))
                clear hR8 hB8 hb9 hrd8 hR9 hrd9
                go_wp2_with fail
                refine (HSm.out).mono ?_
                rintro e w10 ⟨rfl, hb10⟩
                have HB10 := hide (hB9.trans (hb10.mono hB9.size))
                clear hB9 hb10 HSm
                go_wp2_with fail
                exact bodyPost_ret (results_tmp rfl _ _ _) rfl ⟨by simp, HB10.out⟩
            · have hv1 : ((V : Int) == 0) = false := by rw [beq_eq_false_iff_ne]; omega
              have hv2 : ((V : Int) != 0) = true := by rw [bne, hv1]; rfl
              clear hV0
              rcases hcase7 with ⟨N3, E3, _, hE3, rfl⟩ | ⟨_, A3, rs3, c3, rfl, _, _, _, _⟩
              all_goals
                go_wp2_with fail
                refine (HA.out _).mono ?_
                rintro e w8 ⟨rfl, hb8⟩
                have hR8 := hR7.step hb8
                have hB8 := hB7.trans (hb8.mono hB7.size)
                clear hR7 hB7 hb8
                go_wp2_with fail
                refine (HC.out _ hR8).mono ?_
                rintro e w9 ⟨rfl, hb9⟩
                have HB9 := hide (hB8.trans (hb9.mono hB8.size))
                clear hR8 hB8 hb9
                go_wp2_with fail
                exact bodyPost_ret (results_tmp rfl _ _ _) rfl ⟨by simp, HB9.out⟩
        | succ g0 =>
          have hii : (i : Int) < l.length := by omega
          obtain ⟨r, hr⟩ : ∃ r, l[i]? = some r := ⟨_, List.getElem?_eq_getElem (by omega)⟩
          obtain ⟨ad, rfl, hlt, d0, d1⟩ := hR6 i r hr
          have hft := feeds_take l i r hr
          obtain ⟨kp, pat⟩ := r
          obtain ⟨F0, hF0⟩ : ∃ F0, F0 = feedsR (l.take i) := ⟨_, rfl⟩
          obtain ⟨F1, hF1⟩ : ∃ F1, F1 = feedsR (l.take (i + 1)) := ⟨_, rfl⟩
          rw [← hF0, ← hF1] at hft
          rw [← hF0]
          have HFT := hide hft
          have HF1 := hide hF1
          have hiw : IntKind.i64.wrap ((i : Int) + 1) = ((i + 1 : Nat) : Int) := by rw [IntWalk.i64_in _ (by omega)]; rfl
          have hps : (pat.size : Int) ≤ 100 := HEach.out i _ hr
          clear hft hF0 hF1 hr
          go_wp2_with fail
          go_loopg [12, 14] pat.size (fun gk2 fv kv wr2 => ∃ k : Nat, kv = .int .i64 k ∧ fv = .bool (F0 || feedL ((toL pat).take k)) ∧ k + gk2 = pat.size ∧ wr2 = wr)
          case atStart => exact ⟨0, rfl, by simp [feedL], by omega, rfl⟩
          case round =>
            obtain ⟨k, rfl, rfl, hkg, rfl⟩ := hrel
            cases gk with
            | zero =>
              obtain rfl : k = pat.size := by omega
              rw [List.take_of_length_le (by rw [size_toL]; exact Nat.le_refl _), ← HFT.out]
              clear hkg
              go_wp2_with fail
              go_roundg g0
              case rel => exact ⟨i + 1, rfl, by rw [HF1.out], by omega, rfl⟩
              case measure => omega
            | succ g1 =>
              have hkk : (k : Int) < pat.size := by omega
              have hkn : k < pat.size := by omega
              have hfk := feed_take pat k hkn
              obtain ⟨y, hy⟩ : ∃ y, pat[k]'hkn = y := ⟨_, rfl⟩
              rw [hy] at hfk
              have hyb : ((y.toNat : Int) == 10) = (y == 10) := by
                rw [Bool.eq_iff_iff, beq_iff_eq, beq_iff_eq]
                constructor
                · intro h; exact UInt8.toNat_inj.1 (by have : (10 : UInt8).toNat = 10 := rfl; omega)
                · rintro rfl; rfl
              obtain ⟨B0, hB0⟩ : ∃ B0, B0 = (F0 || feedL ((toL pat).take k)) := ⟨_, rfl⟩
              have HB1 := hide (show (F0 || feedL ((toL pat).take (k + 1))) = (B0 || (y == 10)) by rw [hfk, hB0, Bool.or_assoc])
              rw [← hB0]
              have hkw : IntKind.i64.wrap ((k : Int) + 1) = ((k + 1 : Nat) : Int) := by rw [IntWalk.i64_in _ (by omega)]; rfl
              clear hfk hB0
              cases B0 with
              | true =>
                clear hyb
                go_wp2_with fail
                go_roundg g1
                case rel => exact ⟨k + 1, rfl, by rw [HB1.out]; rfl, by omega, rfl⟩
                case measure => omega
              | false =>
                obtain ⟨Y, hY⟩ : ∃ Y, Y = (y == 10) := ⟨_, rfl⟩
                rw [← hY] at HB1 hyb
                clear hY
                go_wp2_with fail
                go_roundg g1
                case rel => exact ⟨k + 1, rfl, by rw [HB1.out]; simp, by omega, rfl⟩
                case measure => omega
    · exact absurd (congrArg Prod.snd (HE.out.symm.trans HE2.out)) HE0.out
  · have hf1 : Few rs1 := fun k r hk => by have := HFs1.out k r hk; omega
    have HT3 := hide (fun (W : World) (h : RdR W W.heap.size A1 rs1) => textR_any A1 rs1 c1 W h hf1 (by omega))
    clear hf1
    go_wp2_with fail
    refine (HP2.out _).mono ?_
    intro e w4 hpt4
    obtain ⟨hb4, ⟨N2, E2, HE2, hE2, _⟩ | ⟨_, A2, rs2, c2, rfl, hrs2, hrd2, _, _⟩⟩ := hpt4.parts
    · exact absurd (congrArg Prod.snd (HE2.out.symm.trans HE.out)) hE2
    · clear hpt4
      obtain rfl : rs2 = rs1 := rulesL_inj (hrs2.out.trans HRs1.out.symm)
      have hR4 := hR3.step hb4
      have hB4 := hB3.trans (hb4.mono hB3.size)
      have hrd4 := hrd1.step hb4
      clear hR3 hB3 hb4 hrs2 hrd1
      go_wp2_with fail
      refine (HT2.out _ hR4).mono ?_
      rintro e w5 ⟨⟨g2, rfl, hg2⟩, rfl⟩
      obtain rfl : g = g2 := toL_inj2 (HG.out.trans hg2.symm)
      clear hg2
      have HSm := hide (refSame_eq A1 A2 rs2 c1 c2 w5 hrd4 hrd2 (by omega))
      go_wp2_with fail
      refine (HSm.out).mono ?_
      rintro e w6a ⟨rfl, hb6⟩
      have hR6a := hR4.step hb6
      have hB6a := hB4.trans (hb6.mono hB4.size)
      have hrd6 := hrd4.step hb6
      clear hR4 hB4 hb6 HSm hrd4 hrd2
      go_wp2_with fail
      refine (HT3.out _ hrd6).mono ?_
      rintro e w6 ⟨⟨g3, rfl, hg3⟩, hb7⟩
      obtain rfl : s = g3 := toL_inj2 (by rw [hg3, HRs1.out]; exact (texts_back (congrArg Prod.snd HE.out)).symm)
      have hR6 := hR6a.step hb7
      have hB6 := hB6a.trans (hb7.mono hB6a.size)
      clear hg3 hR6a hB6a hb7 hrd6 HT3
      clear HT1 HT2 HP1 HP2
      go_wp2_with fail
      go_loopg [12, 13] l.length (fun gk fv iv wr => ∃ i : Nat, iv = .int .i64 i ∧ fv = .bool (feedsR (l.take i)) ∧ i + gk = l.length ∧ wr = w6)
      case atStart => exact ⟨0, rfl, by simp [feedsR], by omega, rfl⟩
      case round =>
        obtain ⟨i, rfl, rfl, hig, rfl⟩ := hrel
        cases gk with
        | zero =>
          obtain rfl : i = l.length := by omega
          rw [List.take_length]
          obtain ⟨fd, hfd⟩ : ∃ fd, fd = feedsR l := ⟨_, rfl⟩
          rw [← hfd]
          have HFd := hide hfd
          have HPg := hide (fun (W : World) => ruleParse_any g W (by omega))
          clear hfd hig
          go_wp2_with fail
          refine (HPg.out _).mono ?_
          intro e w7 hpt7
          obtain ⟨hb7, hcase7⟩ := hpt7.parts
          clear hpt7
          have hR7 := hR6.step hb7
          have hB7 := hB6.trans (hb7.mono hB6.size)
          clear hR6 hB6 hb7 HPg
          cases fd with
          | true =>
            rcases hcase7 with ⟨N3, E3, _, hE3, rfl⟩ | ⟨_, A3, rs3, c3, rfl, _, _, _, _⟩
            all_goals
              go_wp2_with fail
              refine (HA.out _).mono ?_
              rintro e w8 ⟨rfl, hb8⟩
              have HB8 := hide (hB7.trans (hb8.mono hB7.size))
              clear hb8 hB7
              go_wp2_with fail
              exact bodyPost_ret (results_tmp rfl _ _ _) rfl ⟨by simp, HB8.out⟩
          | false =>
            by_cases hV0 : V = 0
            · subst hV0
              have hbk := fun rs => back_of (rs := rs) HG.out HFd.out.symm HV.out.symm
              rcases hcase7 with ⟨N3, E3, HE3, hE7, rfl⟩ | ⟨_, A3, rs3, c3, rfl, hrs3, hrd3, _, _⟩
              · exact absurd (congrArg Prod.snd (HE3.out.symm.trans (hbk []).1)) hE7
              · obtain rfl : rs3 = l := (hbk rs3).2 hrs3.out
                clear hbk hrs3
                go_wp2_with fail
                refine (HA.out _).mono ?_
                rintro e w8 ⟨rfl, hb8⟩
                have hR8 := hR7.step hb8
                have hB8 := hB7.trans (hb8.mono hB7.size)
                have hrd8 := hrd3.step hb8
                clear hR7 hB7 hb8 hrd3
                go_wp2_with fail
                refine (HC.out _ hR8).mono ?_
                rintro e w9 ⟨rfl, hb9⟩
                have hR9 := hR8.step hb9
                have hB9 := hB8.trans (hb9.mono hB8.size)
                have hrd9 := hrd8.step hb9
                have HSm := hide (refSame_eq A3 A rs3 c3 c w9 hrd9 hR9 (by omega))
                clear hR8 hB8 hb9 hrd8 hR9 hrd9
                go_wp2_with fail
                refine (HSm.out).mono ?_
                rintro e w10 ⟨rfl, hb10⟩
                have HB10 := hide (hB9.trans (hb10.mono hB9.size))
                clear hB9 hb10 HSm
                go_wp2_with fail
                exact bodyPost_ret (results_tmp rfl _ _ _) rfl ⟨by simp, HB10.out⟩
            · have hv1 : ((V : Int) == 0) = false := by rw [beq_eq_false_iff_ne]; omega
              have hv2 : ((V : Int) != 0) = true := by rw [bne, hv1]; rfl
              clear hV0
              rcases hcase7 with ⟨N3, E3, _, hE3, rfl⟩ | ⟨_, A3, rs3, c3, rfl, _, _, _, _⟩
              all_goals
                go_wp2_with fail
                refine (HA.out _).mono ?_
                rintro e w8 ⟨rfl, hb8⟩
                have hR8 := hR7.step hb8
                have hB8 := hB7.trans (hb8.mono hB7.size)
                clear hR7 hB7 hb8
                go_wp2_with fail
                refine (HC.out _ hR8).mono ?_
                rintro e w9 ⟨rfl, hb9⟩
                have HB9 := hide (hB8.trans (hb9.mono hB8.size))
                clear hR8 hB8 hb9
                go_wp2_with fail
                exact bodyPost_ret (results_tmp rfl _ _ _) rfl ⟨by simp, HB9.out⟩
        | succ g0 =>
          have hii : (i : Int) < l.length := by omega
          obtain ⟨r, hr⟩ : ∃ r, l[i]? = some r := ⟨_, List.getElem?_eq_getElem (by omega)⟩
          obtain ⟨ad, rfl, hlt, d0, d1⟩ := hR6 i r hr
          have hft := feeds_take l i r hr
          obtain ⟨kp, pat⟩ := r
          obtain ⟨F0, hF0⟩ : ∃ F0, F0 = feedsR (l.take i) := ⟨_, rfl⟩
          obtain ⟨F1, hF1⟩ : ∃ F1, F1 = feedsR (l.take (i + 1)) := ⟨_, rfl⟩
          rw [← hF0, ← hF1] at hft
          rw [← hF0]
          have HFT := hide hft
          have HF1 := hide hF1
          have hiw : IntKind.i64.wrap ((i : Int) + 1) = ((i + 1 : Nat) : Int) := by rw [IntWalk.i64_in _ (by omega)]; rfl
          have hps : (pat.size : Int) ≤ 100 := HEach.out i _ hr
          clear hft hF0 hF1 hr
          go_wp2_with fail
          go_loopg [12, 14] pat.size (fun gk2 fv kv wr2 => ∃ k : Nat, kv = .int .i64 k ∧ fv = .bool (F0 || feedL ((toL pat).take k)) ∧ k + gk2 = pat.size ∧ wr2 = wr)
          case atStart => exact ⟨0, rfl, by simp [feedL], by omega, rfl⟩
          case round =>
            obtain ⟨k, rfl, rfl, hkg, rfl⟩ := hrel
            cases gk with
            | zero =>
              obtain rfl : k = pat.size := by omega
              rw [List.take_of_length_le (by rw [size_toL]; exact Nat.le_refl _), ← HFT.out]
              clear hkg
              go_wp2_with fail
              go_roundg g0
              case rel => exact ⟨i + 1, rfl, by rw [HF1.out], by omega, rfl⟩
              case measure => omega
            | succ g1 =>
              have hkk : (k : Int) < pat.size := by omega
              have hkn : k < pat.size := by omega
              have hfk := feed_take pat k hkn
              obtain ⟨y, hy⟩ : ∃ y, pat[k]'hkn = y := ⟨_, rfl⟩
              rw [hy] at hfk
              have hyb : ((y.toNat : Int) == 10) = (y == 10) := by
                rw [Bool.eq_iff_iff, beq_iff_eq, beq_iff_eq]
                constructor
                · intro h; exact UInt8.toNat_inj.1 (by have : (10 : UInt8).toNat = 10 := rfl; omega)
                · rintro rfl; rfl
              obtain ⟨B0, hB0⟩ : ∃ B0, B0 = (F0 || feedL ((toL pat).take k)) := ⟨_, rfl⟩
              have HB1 := hide (show (F0 || feedL ((toL pat).take (k + 1))) = (B0 || (y == 10)) by rw [hfk, hB0, Bool.or_assoc])
              rw [← hB0]
              have hkw : IntKind.i64.wrap ((k : Int) + 1) = ((k + 1 : Nat) : Int) := by rw [IntWalk.i64_in _ (by omega)]; rfl
              clear hfk hB0
              cases B0 with
              | true =>
                clear hyb
                go_wp2_with fail
                go_roundg g1
                case rel => exact ⟨k + 1, rfl, by rw [HB1.out]; rfl, by omega, rfl⟩
                case measure => omega
              | false =>
                obtain ⟨Y, hY⟩ : ∃ Y, Y = (y == 10) := ⟨_, rfl⟩
                rw [← hY] at HB1 hyb
                clear hY
                go_wp2_with fail
                go_roundg g1
                case rel => exact ⟨k + 1, rfl, by rw [HB1.out]; simp, by omega, rfl⟩
                case measure => omega
theorem ruleTexts_law (A : Option Addr) (l : List (Bool × ByteArray)) (c : Nat) (s : ByteArray) (w : World) (hR : RdR w w.heap.size A l) :
    Calls Tryd.prog 6 #[.slice A l.length c, .string s] w fun e w' => e = .returned (.bool true) ∧ Below w.heap.size w w' := by
  cases h : smallL l with
  | false => exact texts_awake A l c s w hR (.inl h)
  | true =>
    by_cases h1 : (2000 : Int) < s.size
    · exact texts_awake A l c s w hR (.inr ⟨h, h1⟩)
    · exact texts_main A l c s w hR h h1
end Go.Proofs.YthlalmehcpionaaDoor
