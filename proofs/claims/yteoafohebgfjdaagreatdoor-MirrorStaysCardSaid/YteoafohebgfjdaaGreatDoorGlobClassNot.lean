/-
  What glob.class answers, behind the sign.
-/
import Derived.Test.YteoafohebgfjdaaGreatDoorAutoGlobPat
namespace Go.Proofs.YteoafohebgfjdaaGreatDoor
open Go.RowKit
attribute [local go_sem] World.setCell_drewN' World.alloc_drewN'

set_option maxRecDepth 100000 in
set_option maxHeartbeats 4000000 in
theorem class_not (s : ByteArray) (w : World) (h0 : 2 ≤ s.size) (hs : (s.size : Int) ≤ 100) (hn : Lib.hasPrefix (s.data.toList.drop 1) [33] = true) :
    Calls Tryz.prog 134 #[.string s] w fun e w' => e = .returned (readV (classOf s.data.toList)) ∧ Below w.heap.size w w' := by
  have hi : (1 : Int) ≤ s.size := by omega
  have hj : 1 ≤ s.size := by omega
  go_enter Tryz.func134, Tryz.ntmps134
  go_wp2_with fail
  go_step3
  go_wp2_with fail
  refine (hasPrefix_any _ _ _).mono ?_
  rintro e w1 ⟨rfl, rfl⟩
  rw [extract_end, show (ByteArray.mk #[33]).data.toList = [33] from rfl, hn]
  have HN := hide hn
  clear hn
  go_wp2
  go_step3
  go_wp2
  go_loopg [4] (s.size - 2) (fun g i wr => ∃ (k : Nat) (P : Nat → Bool), i = .int .i64 k ∧ k + g = s.size ∧ 2 ≤ k ∧ Hid (cls P (decide (k = 2)) k (s.data.toList.drop k) = cls emptyP true 2 (s.data.toList.drop 2)) ∧ Mine w wr P)
  case atStart => exact ⟨2, emptyP, rfl, by omega, by omega, hide rfl, Mine.start w⟩
  case round =>
    obtain ⟨k, P, rfl, hkg, hk1, HC, hM⟩ := hrel
    have HG := hide hkg
    have c0 := hM.c0; have c1 := hM.c1; have c2 := hM.c2; have c3 := hM.c3
    have o0 := hM.o0; have o1 := hM.o1; have o2 := hM.o2; have o3 := hM.o3; have o4 := hM.o4
    have fs := hM.fs; have fo := hM.fo; have hz := hM.size
    cases gk with
    | zero =>
      obtain rfl : k = s.size := by omega
      clear hkg
      have HR := hide (show classOf s.data.toList = none by unfold classOf; rw [HN.out]; simp only [if_true]; rw [← HC.out, cls_end])
      clear HC
      go_wp2
      rw [Exit.noGoto_ret]
      refine bodyPost_ret (v := .tuple #[.agg part0, .int .i64 0]) (by simp [results, Tryz.results134, go_sem, o0, o1, o2, o3, o4]; rfl) rfl ⟨by rw [HR.out]; rfl, ?_⟩
      exact five' hM.below
    | succ g =>
    have hk : k < s.size := by omega
    have kne : ((k : Int) == (s.size : Int)) = false := by rw [beq_eq_false_iff_ne]; omega
    clear hkg
    by_cases h93 : (s[k].toNat : Int) = 93
    · by_cases h1 : k = 2
      · have HR := hide (show classOf s.data.toList = none by unfold classOf; rw [HN.out]; simp only [if_true]; rw [← HC.out, decide_eq_true h1, cls_first hk h93])
        have h1' : ¬ (2 : Int) < k := by omega
        have hm : memB 93 = false := rfl
        clear h1 HC
        go_wp2_with (go_at_call 139; refine (member_any _ _).mono ?_; rintro e w1 ⟨rfl, rfl⟩)
        rw [Exit.noGoto_ret]
        refine bodyPost_ret (v := .tuple #[.agg part0, .int .i64 0]) (by simp [results, Tryz.results134, go_sem, o0, o1, o2, o3, o4]; rfl) rfl ⟨by rw [HR.out]; rfl, ?_⟩
        exact five' hM.below
      · have h1' : (2 : Int) < k := by omega
        have HR := hide (show classOf s.data.toList = some ((false, fun x => notP P x && !spanP 47 48 x), k + 1) by
          unfold classOf; rw [HN.out]; simp only [if_true]; rw [← HC.out, decide_eq_false h1, cls_shut hk h93]; rfl)
        clear h1 HC
        go_upto_region 18 with fail
        go_cut [4] (fun s4 wx => s4 = .int .i64 k ∧ Mine w wx (notP P))
        case first =>
          clear fs fo o0 o1 o2 o3 o4
          have hMd := hM.drew
          go_region_with (first
            | (go_at_call 132; refine (all_any _).mono ?_; rintro e w1 ⟨rfl, hb1⟩; have hM1 := hMd.after hb1; have a0 := hM1.c0; have a1 := hM1.c1; have a2 := hM1.c2; have a3 := hM1.c3; unfold setV)
            | (go_at_call 138; refine (without_any _ P _).mono ?_; rintro e w2 ⟨rfl, hb2⟩; have hM2 := hM1.after hb2; have b0 := hM2.c0; have b1 := hM2.c1; have b2 := hM2.c2; have b3 := hM2.c3; have qs := hM2.fs; unfold setV))
          all_goals (go_wp2_with fail; go_meet; exact ⟨rfl, hM2.put (notP P)⟩)
        case rest =>
          obtain ⟨rfl, hM'⟩ := hcut
          clear hM c0 c1 c2 c3 o0 o1 o2 o3 o4 fs fo hz
          have c0 := hM'.c0; have c1 := hM'.c1; have c2 := hM'.c2; have c3 := hM'.c3
          have o0 := hM'.o0; have o1 := hM'.o1; have o2 := hM'.o2; have o3 := hM'.o3; have o4 := hM'.o4
          have fo := hM'.fo
          go_wp2
          have kk : IntKind.i64.wrap ((k : Int) + 1) = ((k + 1 : Nat) : Int) := by rw [IntWalk.i64_in _ (by omega)]; rfl
          go_region_held3 (fun w' => w'.cell? ⟨w.heap.size + 1, 0, none⟩ = some (.int .u64 (wd (notP P) 0 : Nat)) ∧ w'.cell? ⟨w.heap.size + 1, 1, none⟩ = some (.int .u64 (wd (notP P) 1 : Nat)) ∧ w'.cell? ⟨w.heap.size + 1, 2, none⟩ = some (.int .u64 (wd (notP P) 2 : Nat)) ∧ w'.cell? ⟨w.heap.size + 1, 3, none⟩ = some (.int .u64 (wd (notP P) 3 : Nat))) (first | go_keep | exact ⟨a0, a1, a2, a3⟩ | exact ⟨b0, b1, b2, b3⟩)
            (first
              | (go_at_call 135; refine (span_any 47 47 _ (by omega) (by omega)).mono ?_; rintro e w1 ⟨rfl, hb1⟩; have hM1 := hM'.drew.after hb1; have a0 := hM1.c0; have a1 := hM1.c1; have a2 := hM1.c2; have a3 := hM1.c3)
              | (go_at_call 138; refine (without_any (notP P) _ _).mono ?_; rintro e w2 ⟨rfl, hb2⟩; have hM2 := hM1.after hb2; have b0 := hM2.c0; have b1 := hM2.c1; have b2 := hM2.c2; have b3 := hM2.c3; have q0 := hM2.o0; have q1 := hM2.o1; have q2 := hM2.o2; have q3 := hM2.o3; have q4 := hM2.o4; have qo := hM2.fo; unfold setV))
          go_wp2
          rw [Exit.noGoto_ret]
          refine bodyPost_ret (v := .tuple #[.agg (partV false (fun x => (notP P) x && !spanP 47 48 x)), .int .i64 (k + 1 : Nat)]) (by simp [results, Tryz.results134, go_sem, q0, q1, q2, q3, q4]; rfl) rfl ⟨by rw [HR.out]; rfl, ?_⟩
          exact five' hM2.below
    have d93 : ((s[k].toNat : Int) == 93) = false := beq_eq_false_iff_ne.2 h93
    have hc : ((s[k].toNat : Nat) : Int) < 256 := by have := s[k].toNat_lt; omega
    by_cases hm : memb s[k] = true
    case neg =>
      have hm' : memb s[k] = false := by simpa using hm
      have HR := hide (show classOf s.data.toList = none by unfold classOf; rw [HN.out]; simp only [if_true]; rw [← HC.out, cls_bad hk h93 hm'])
      have hmb : memB (s[k].toNat : Int) = false := by rw [memB_byte]; exact hm'
      clear hm hm' HC h93
      go_wp2_with (go_at_call 139; refine (member_any _ _).mono ?_; rintro e w1 ⟨rfl, rfl⟩)
      rw [Exit.noGoto_ret]
      refine bodyPost_ret (v := .tuple #[.agg part0, .int .i64 0]) (by simp [results, Tryz.results134, go_sem, o0, o1, o2, o3, o4]; rfl) rfl ⟨by rw [HR.out]; rfl, ?_⟩
      exact five' hM.below
    case pos =>
      have hmb : memB (s[k].toNat : Int) = true := by rw [memB_byte]; exact hm
      have HM := hide hm
      have H93 := hide h93
      clear hm h93
      have hMd := hM.drew
      go_upto_region 12 with (go_at_call 139; refine (member_any _ _).mono ?_; rintro e w1 ⟨rfl, rfl⟩)
      go_cut [56] (fun s56 wx => s56 = .bool (isRange s k) ∧ wx = wr)
      case first =>
        by_cases h2 : k + 2 < s.size
        · by_cases h45 : (s[k + 1].toNat : Int) = 45
          · by_cases g93 : (s[k + 2].toNat : Int) = 93
            · have HI := hide (show isRange s k = false by simp [isRange, h2, h45, g93])
              clear HC
              go_wp2
              go_meet
              exact ⟨by rw [HI.out], rfl⟩
            · have HI := hide (show isRange s k = true by simp [isRange, h2, h45, g93])
              have e93 : ((s[k + 2].toNat : Int) == 93) = false := beq_eq_false_iff_ne.2 g93
              have e93' : ((s[k + 2].toNat : Int) != 93) = true := by rw [bne, e93]; rfl
              clear g93 HC
              go_wp2
              go_meet
              exact ⟨by rw [HI.out], rfl⟩
          · have HI := hide (show isRange s k = false by simp [isRange, h2, h45])
            have e45 : ((s[k + 1].toNat : Int) == 45) = false := beq_eq_false_iff_ne.2 h45
            clear h45 HC
            go_wp2
            go_meet
            exact ⟨by rw [HI.out], rfl⟩
        · have HI := hide (show isRange s k = false by simp [isRange, h2])
          clear HC
          go_wp2
          go_meet
          exact ⟨by rw [HI.out], rfl⟩
      case rest =>
        obtain ⟨rfl, rfl⟩ := hcut
        cases hG : isRange s k with
        | true =>
          obtain ⟨h2, h45, g93⟩ := isRange_yes hG
          clear hG
          have hc2 : ((s[k + 2].toNat : Nat) : Int) < 256 := by have := s[k + 2].toNat_lt; omega
          have kk2' : (0 : Int) ≤ (k : Int) + 2 := by omega
          have kk3 : (k : Int) + 2 < s.size := by omega
          have kk4 : (k : Int) < s.size := by omega
          cases hm2 : memb s[k + 2] with
          | false =>
            have HR := hide (show classOf s.data.toList = none by unfold classOf; rw [HN.out]; simp only [if_true]; rw [← HC.out, cls_range_bad h2 H93.out HM.out h45 g93 (.inl hm2)])
            have hmb2 : memB (s[k + 2].toNat : Int) = false := by rw [memB_byte]; exact hm2
            clear HC hm2 h45 g93
            go_wp2_with fail
            go_quiet ((go_at_call 139; exact Calls.quiet_of_same ((member_any _ _).mono fun _ _ h => ⟨h.1, h.2.symm⟩)))
            go_wp2
            rw [Exit.noGoto_ret]
            refine bodyPost_ret (v := .tuple #[.agg part0, .int .i64 0]) (by simp [results, Tryz.results134, go_sem, o0, o1, o2, o3, o4]; rfl) rfl ⟨by rw [HR.out]; rfl, ?_⟩
            exact below_drewN (five' hM.below) _
          | true =>
            have hmb2 : memB (s[k + 2].toNat : Int) = true := by rw [memB_byte]; exact hm2
            by_cases hlt : s[k + 2].toNat < s[k].toNat
            · have HR := hide (show classOf s.data.toList = none by unfold classOf; rw [HN.out]; simp only [if_true]; rw [← HC.out, cls_range_bad h2 H93.out HM.out h45 g93 (.inr hlt)])
              have hlt' : (s[k + 2].toNat : Int) < s[k].toNat := by omega
              clear HC hm2 h45 g93 hlt
              go_wp2_with fail
              go_quiet ((go_at_call 139; exact Calls.quiet_of_same ((member_any _ _).mono fun _ _ h => ⟨h.1, h.2.symm⟩)))
              go_wp2
              rw [Exit.noGoto_ret]
              refine bodyPost_ret (v := .tuple #[.agg part0, .int .i64 0]) (by simp [results, Tryz.results134, go_sem, o0, o1, o2, o3, o4]; rfl) rfl ⟨by rw [HR.out]; rfl, ?_⟩
              exact below_drewN (five' hM.below) _
            · have HS := hide (HC.out.symm.trans (cls_range (P := P) (f := decide (k = 2)) h2 H93.out HM.out h45 g93 hm2 hlt))
              have hlt' : ¬ (s[k + 2].toNat : Int) < s[k].toNat := by omega
              clear HC hm2 h45 g93 hlt
              go_wp2_with fail
              go_quiet ((go_at_call 139; exact Calls.quiet_of_same ((member_any _ _).mono fun _ _ h => ⟨h.1, h.2.symm⟩)))
              go_upto_region 15 with fail
              go_cut [4] (fun s4 wx => s4 = .int .i64 k ∧ Mine w wx (fun x => P x || spanP s[k].toNat (s[k + 2].toNat + 1) x))
              case first =>
                clear fs fo o0 o1 o2 o3 o4
                have kk6 : ((k : Int) + 2).toNat = k + 2 := by omega
                have kk5 : IntKind.i64.wrap ((k : Int) + 2) = (k : Int) + 2 := IntWalk.i64_in _ (by omega)
                go_region_with (first
                  | (go_at_call 135; refine (span_any _ _ _ hc hc2).mono ?_; rintro e w1 ⟨rfl, hb1⟩; have hM1 := hM.afterN hb1; have a0 := hM1.c0; have a1 := hM1.c1; have a2 := hM1.c2; have a3 := hM1.c3; unfold setV)
                  | (go_at_call 140; refine (with_any P _ _).mono ?_; rintro e w2 ⟨rfl, hb2⟩; have hM2 := hM1.after hb2; have b0 := hM2.c0; have b1 := hM2.c1; have b2 := hM2.c2; have b3 := hM2.c3; have qs := hM2.fs; unfold setV))
                all_goals (go_wp2_with fail; go_meet; exact ⟨rfl, hM2.put _⟩)
              case rest =>
                obtain ⟨rfl, hM'⟩ := hcut
                clear hM hMd c0 c1 c2 c3 o0 o1 o2 o3 o4 fs fo hz
                go_wp2
                go_roundg (g - 2)
                case rel => exact ⟨k + 3, _, by go_num, by have := HG.out; omega, by omega, by rw [decide_eq_false (by omega)]; exact hide HS.out.symm, hM'⟩
                case measure => omega
        | false =>
          have hG' := hG
          have HS := hide (HC.out.symm.trans (cls_one (P := P) (f := decide (k = 2)) hk H93.out HM.out (isRange_no hG')))
          clear HC hG hG'
          go_upto_region 7 with fail
          go_cut [4] (fun s4 wx => s4 = .int .i64 k ∧ Mine w wx (fun x => P x || spanP s[k].toNat (s[k].toNat + 1) x))
          case first =>
            clear fs fo o0 o1 o2 o3 o4
            go_region_with (first
              | (go_at_call 135; refine (span_any _ _ _ hc hc).mono ?_; rintro e w1 ⟨rfl, hb1⟩; have hM1 := hMd.after hb1; have a0 := hM1.c0; have a1 := hM1.c1; have a2 := hM1.c2; have a3 := hM1.c3; unfold setV)
              | (go_at_call 140; refine (with_any P _ _).mono ?_; rintro e w2 ⟨rfl, hb2⟩; have hM2 := hM1.after hb2; have b0 := hM2.c0; have b1 := hM2.c1; have b2 := hM2.c2; have b3 := hM2.c3; have qs := hM2.fs; unfold setV))
            all_goals (go_wp2_with fail; go_meet; exact ⟨rfl, hM2.put _⟩)
          case rest =>
            obtain ⟨rfl, hM'⟩ := hcut
            clear hM hMd c0 c1 c2 c3 o0 o1 o2 o3 o4 fs fo hz
            go_wp2
            go_roundg g
            case rel => exact ⟨k + 1, _, by go_num, by have := HG.out; omega, by omega, by rw [decide_eq_false (by omega)]; exact hide HS.out.symm, hM'⟩
            case measure => omega
end Go.Proofs.YteoafohebgfjdaaGreatDoor
