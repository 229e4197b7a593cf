/-
  The law JournalBack, walked.
-/
import Derived.Test.YtggdndmjfbiaiaaDoorJnAwake
import Derived.Test.YtggdndmjfbiaiaaDoorJnFrom
import Derived.Test.YtggdndmjfbiaiaaDoorJnRefLine
import Derived.Lib.QuietBelow
import Derived.OwnWalk
namespace Go.Proofs.YtggdndmjfbiaiaaDoor
open Go.RowKit Go.Sort
set_option maxRecDepth 100000

/-- Records' lines, one behind the other; those that have one. -/
def flatJ (l : List (Int × Int)) : List UInt8 := l.flatMap fun p => lineJ p.1 p.2
def okL (l : List (Int × Int)) : List (Int × Int) := l.filter fun p => decide (OkJ p.1 p.2)
theorem flat_snoc (l : List (Int × Int)) (p : Int × Int) : flatJ (l ++ [p]) = flatJ l ++ lineJ p.1 p.2 := by simp [flatJ]
theorem ok_yes (l : List (Int × Int)) {k n : Int} (h : OkJ k n) : okL (l ++ [(k, n)]) = okL l ++ [(k, n)] := by simp [okL, h]
theorem ok_no (l : List (Int × Int)) {k n : Int} (h : ¬ OkJ k n) : okL (l ++ [(k, n)]) = okL l := by simp [okL, h]
theorem ok_len (l : List (Int × Int)) : (okL l).length ≤ l.length := List.length_filter_le _ _
theorem read_flat (y : List UInt8) (hy : ∀ c ∈ y, c ≠ 10) : ∀ l : List (Int × Int), readJ (linesL (flatJ l ++ y)) = okL l
  | [] => read_bare hy
  | (k, n) :: l => by
    have ih := read_flat y hy l
    have e : flatJ ((k, n) :: l) ++ y = lineJ k n ++ (flatJ l ++ y) := by simp [flatJ]
    by_cases h : OkJ k n
    · rw [e, read_line h, ih]; simp [okL, h]
    · rw [e, lineJ_no h, List.nil_append, ih]; simp [okL, h]

set_option maxHeartbeats 16000000 in
theorem jback_law (A : Option Addr) (l : List (Int × Int)) (c : Nat) (torn : ByteArray) (w : World) (hT : Tabs w) (hA : RdR w w.heap.size A l) :
    Calls Tryd.prog 4 #[.slice A l.length c, .string torn] w fun e w' => e = .returned (.bool true) ∧ Below w.heap.size w w' := by
  obtain ⟨i0, hi, hz0, hz1, hz2⟩ := info_parts info_rrec
  have HAw := hide (fun W (hb : Below w.heap.size w W) => jawake_any W (hT.below hb))
  have HT := hide hT
  have HA := hide hA
  clear hA hT
  by_cases hl40 : (l.length : Int) > 40
  · have HA := hide (HAw.out w (Below.refl _ _))
    clear HAw
    go_enter Tryd.func4, Tryd.ntmps4
    go_wp2_with fail
    refine (HA.out).mono ?_
    rintro e w1 ⟨rfl, hb⟩
    go_wp2_with fail
    exact bodyPost_ret (results_tmp rfl _ _ _) rfl ⟨rfl, hb⟩
  · by_cases ht100 : (torn.size : Int) > 100
    · have HA := hide (HAw.out w (Below.refl _ _))
      clear HAw
      go_enter Tryd.func4, Tryd.ntmps4
      go_wp2_with fail
      refine (HA.out).mono ?_
      rintro e w1 ⟨rfl, hb⟩
      go_wp2_with fail
      exact bodyPost_ret (results_tmp rfl _ _ _) rfl ⟨rfl, hb⟩
    · go_enter Tryd.func4, Tryd.ntmps4
      go_wp2_with fail
      go_loopg [5] torn.size (fun gk iv wr => ∃ i : Nat, iv = .int .i64 i ∧ i + gk = torn.size ∧ Hid (∀ c ∈ (toL torn).take i, c ≠ 10) ∧ w = wr)
      case atStart => exact ⟨0, rfl, by omega, hide (by simp), rfl⟩
      case round =>
        obtain ⟨i, rfl, hig, HNo, rfl⟩ := hrel
        cases gk with
        | succ g0 =>
          have hil : i < torn.size := by omega
          have hili : (i : Int) < torn.size := by omega
          have hi0 : (0 : Int) ≤ i := by omega
          have hbd : (toL torn)[i]? = some torn[i] := by
            have h' : i < (toL torn).length := by rw [size_toL]; exact hil
            rw [List.getElem?_eq_getElem h']; rfl
          by_cases h10 : (torn[i].toNat : Int) = 10
          · have h3 : ((torn[i].toNat : Int) == 10) = true := by rw [h10]; rfl
            clear hbd HNo
            go_wp2_with fail
            refine (HAw.out w (Below.refl _ _)).mono ?_
            rintro e w1 ⟨rfl, hb⟩
            go_wp2_with fail
            exact bodyPost_ret (results_tmp rfl _ _ _) rfl ⟨rfl, hb⟩
          · have h3 : ((torn[i].toNat : Int) == 10) = false := by simpa using h10
            have HN := hide (show ∀ c ∈ (toL torn).take (i + 1), c ≠ 10 from fun c hc => by
              rw [List.take_add_one, hbd] at hc
              rcases List.mem_append.1 hc with hc | hc
              · exact HNo.out c hc
              · simp at hc
                rw [hc]
                intro e
                apply h10
                rw [e]; rfl)
            clear hbd HNo
            go_wp2_with fail
            go_roundg g0
            case rel => exact ⟨i + 1, rfl, by omega, HN, rfl⟩
            case measure => omega
        | zero =>
          obtain rfl : i = torn.size := by omega
          have HTn := hide (show ∀ c ∈ toL torn, c ≠ 10 by have h := HNo.out; rwa [List.take_of_length_le (by rw [size_toL]; omega)] at h)
          clear HNo
          go_wp2_with fail
          go_loopg [6, 7, 8, 9] l.length (fun gk sv tv ov iv wr => ∃ (i : Nat) (B : Option Addr) (d : Nat) (T : ByteArray) (us : List (Int × Int)), sv = .string T ∧ tv = .string T ∧ ov = .slice B us.length d ∧ iv = .int .i64 i ∧ i + gk = l.length ∧ T.size ≤ 17 * i ∧ Hid (toL T = flatJ (l.take i)) ∧ Hid (us = okL (l.take i)) ∧ Hid (RI w 33 (.slice B us.length d) us wr))
          case atStart => exact ⟨0, none, 0, ⟨#[]⟩, [], rfl, rfl, rfl, rfl, by omega, Nat.zero_le _, hide rfl, hide rfl, hide ⟨Below.refl _ _, World.ownsRow_nil _ _ _ _⟩⟩
          case round =>
            obtain ⟨i, B, d, T, us, rfl, rfl, rfl, rfl, hig, hTs, HF, HU, HI⟩ := hrel
            have hus : us.length ≤ l.length := by rw [HU.out]; have := ok_len (l.take i); rw [List.length_take] at this; omega
            cases gk with
            | zero =>
              obtain rfl : i = l.length := by omega
              have hTs2 : (T.size : Int) ≤ 680 := by omega
              have HRd0 := hide (show readJ (linesL (toL (T ++ torn))) = us by
                rw [show toL (T ++ torn) = toL T ++ toL torn by simp [toL], HF.out, HU.out, List.take_length]
                exact read_flat _ HTn.out l)
              have HRd := hide (fun W (hb : Below w.heap.size w W) => jread_any (T ++ torn) W (by rw [ByteArray.size_append]; omega) (HT.out.below hb))
              rw [HRd0.out] at HRd
              unfold ReadTo at HRd
              have HB := hide HI.out.below
              have HRo := hide (RdR.own HI.out.own)
              have hbe : (T.toList == T.toList) = true := beq_self_eq_true _
              have hul : (us.length : Int) ≤ 40 := by omega
              clear HF HU HI HRd0
              go_wp2_with fail
              refine (HAw.out _ HB.out).mono ?_
              rintro e w2 ⟨rfl, hb2⟩
              have HB2 := hide (HB.out.trans (hb2.mono HB.out.size))
              have HR2 := hide (HRo.out.step hb2)
              clear hb2
              go_wp2_with fail
              refine (HRd.out _ HB2.out).mono ?_
              rintro e w3 ⟨A3, c3, rfl, hb3, hr3, _⟩
              have HB3 := hide (HB2.out.trans (hb3.mono HB2.out.size))
              have HR3 := hide (HR2.out.step hb3)
              have HFr := hide (from_any A3 us c3 w3 hr3 (by omega))
              clear hb3 hr3
              go_wp2_with fail
              refine (HFr.out).mono ?_
              rintro e w4 ⟨v4, rfl, hI4⟩
              obtain ⟨A4, c4, rfl⟩ := ownsRow_slice hI4.own
              have HB4 := hide (HB3.out.trans (hI4.below.mono HB3.out.size))
              have HSm := hide (rsame_any A4 B us c4 d w4 (RdR.own hI4.own) (HR3.out.step hI4.below) (by omega))
              clear hI4
              go_wp2_with fail
              refine (HSm.out).mono ?_
              rintro e w5 ⟨rfl, hb5⟩
              have HB5 := hide (HB4.out.trans (hb5.mono HB4.out.size))
              clear hb5
              go_wp2_with fail
              exact bodyPost_ret (results_tmp rfl _ _ _) rfl ⟨rfl, HB5.out⟩
            | succ g0 =>
              have hii : (i : Int) < l.length := by omega
              have hi0 : (0 : Int) ≤ (i : Int) := by omega
              obtain ⟨t, ht⟩ : ∃ t, l[i]? = some t := ⟨_, List.getElem?_eq_getElem (by omega)⟩
              obtain ⟨ad, rfl, hlt, hnd⟩ := (HA.out.below HI.out.below (Nat.le_refl _)) i t ht
              obtain ⟨ad', e', _, q0, q1⟩ := HA.out i t ht
              cases e'
              have hlx : (ad.add (i * 2)).block < w.heap.size := by rw [add_block]; exact hlt
              have hT := hide (show l.take (i + 1) = l.take i ++ [t] by
                obtain ⟨h1, e1⟩ := List.getElem?_eq_some_iff.1 ht
                rw [← List.take_append_getElem h1, e1])
              obtain ⟨c0, c1⟩ := hnd
              obtain ⟨rk, rn⟩ := t
              simp only at c0 c1 q0 q1
              have HS := hide (fun (W : World) (h : Below w.heap.size w W) => (⟨(h.cell hlx).trans q0, (h.cell (p := ⟨_, _, none⟩) hlx).trans q1⟩ : W.cell? (ad.add (i * 2)) = some (.int .i64 rk) ∧ W.cell? ⟨(ad.add (i * 2)).block, (ad.add (i * 2)).off + 1, none⟩ = some (.int .i64 rn)))
              have HL := hide (fun W (hb : Below w.heap.size w W) => line_any rk rn W (HT.out.below hb))
              have HRL := hide (fun W => refLine_any rk rn W)
              have hls := lineB_size rk rn
              have HLt := hide (lineB_toL rk rn)
              have HLn := hide (fun h : ¬ OkJ rk rn => lineB_no h)
              have HLy := hide (show OkJ rk rn → (((lineB rk rn).toList == []) = false ∧ (lineB rk rn).toList.isEmpty = false) from fun h => by
                have h1 := lineJ_ne.2 h
                rw [← lineB_toL] at h1
                rw [Lib.toList_data]
                refine ⟨by rw [beq_eq_false_iff_ne]; exact h1, ?_⟩
                cases hx : (lineB rk rn).data.toList with
                | nil => exact absurd hx h1
                | cons a b => rfl)
              obtain ⟨LB, hLB⟩ : ∃ LB, LB = lineB rk rn := ⟨_, rfl⟩
              rw [← hLB] at HL HRL hls HLt HLn HLy
              have q0' := fun d os => cell_regrown c0 d os
              have q1' := fun d os => cell_regrown c1 d os
              have kl := hide (fun d os => Calls.regrown_of (HL.out (Go.Sort.grow (redrawn wr d) os) (HI.out.below.trans ((below_regrown wr d os).mono HI.out.below.size))))
              clear ht hlt hLB c0 c1 q0 q1
              go_wp2_with fail
              refine wp_region_quiet_below (by kernel_rfl) (by kernel_rfl) ?_
              repeat (go_big_quiet_step ((go_at_call 11; exact kl.out _ _)))
              refine wpQuiet_nil ?_
              intro w5 hw5
              obtain ⟨⟨d9, os9⟩, rfl⟩ := hw5
              have HI5 := hide (HI.out.step (below_regrown wr d9 os9))
              generalize Go.Sort.grow (redrawn wr d9) os9 = w5 at HI5 ⊢
              clear q0' q1' kl HI
              obtain ⟨c0, c1⟩ := HS.out _ HI5.out.below
              have hTs2 : T.size ≤ 680 := by omega
              have hbn : (LB.toList != LB.toList) = false := by rw [bne, beq_self_eq_true]; rfl
              have hbe : (LB.toList == LB.toList) = true := beq_self_eq_true _
              go_wp2_with fail
              refine (HRL.out _).mono ?_
              rintro e w6 ⟨rfl, hb6⟩
              have HI6 := hide (HI5.out.step hb6)
              clear hb6 c0 c1 HI5
              obtain ⟨c0, c1⟩ := HS.out _ HI6.out.below
              go_wp2_with fail
              refine (HRL.out _).mono ?_
              rintro e w7 ⟨rfl, hb7⟩
              have HI7 := hide (HI6.out.step hb7)
              clear hb7 c0 c1 HI6
              obtain ⟨c0, c1⟩ := HS.out _ HI7.out.below
              have HFN := hide (show toL (T ++ LB) = flatJ (l.take (i + 1)) by
                rw [hT.out, flat_snoc, ← HF.out, ← HLt.out]; simp [toL])
              have HTN := hide (show (T ++ LB).size ≤ 17 * (i + 1) by rw [ByteArray.size_append]; omega)
              by_cases hok : OkJ rk rn
              · obtain ⟨e1, e2⟩ := HLy.out hok
                have e3 : (LB.toList != []) = true := by rw [bne, e1]; rfl
                have HUN := hide (show us ++ [(rk, rn)] = okL (l.take (i + 1)) by rw [hT.out, ok_yes _ hok, HU.out])
                have hOwn := HI7.out.own
                have hsz := HI7.out.below.size
                have HA7 := hide (HI7.out.below.alloc HI7.out.below.size (.cells #[.int .i64 rk, .int .i64 rn] 33))
                clear hok
                go_wp2_with (at_builtin; refine wpList_append_own _ rfl _ _ 24 rfl w.heap.size 33 i0 _ 2 16 Tryd.underlying24 hi hz0 hz1 hz2 rfl (by decide) _ _ _ rfl (hOwn.alloc _) ⟨w7.heap.size, 0, none⟩ 1 1 (cellsR [(rk, rn)]) rfl rfl (new_rec _ _ _ _) (cellsR_one _) (by unfold maxLen; omega) (by omega) (by rw [World.size_alloc]; omega) ?_)
                intro v' w' hO' hg hnil
                obtain ⟨A', c', rfl⟩ := ownsRow_slice hO'
                have HIN := hide (show RI w 33 (.slice A' (us ++ [(rk, rn)]).length c') (us ++ [(rk, rn)]) w' from by
                  refine ⟨HA7.out.grown hg HA7.out.size (fun r e => (hOwn.lt r e).1), ?_⟩
                  rw [List.length_append, cellsR_app]; exact hO')
                have hlen : (us ++ [(rk, rn)]).length = us.length + 1 := by simp
                clear hO' hg hnil c0 c1 hOwn hsz HA7 HI7
                go_wp2_with fail
                rw [← hlen]
                go_roundg g0
                case rel => exact ⟨i + 1, A', c', T ++ LB, us ++ [(rk, rn)], rfl, rfl, rfl, rfl, by omega, HTN.out, HFN, HUN, HIN⟩
                case measure => omega
              · obtain rfl := HLn.out hok
                have HUN := hide (show us = okL (l.take (i + 1)) by rw [hT.out, ok_no _ hok, HU.out])
                clear hok c0 c1
                go_wp2_with fail
                go_roundg g0
                case rel => exact ⟨i + 1, B, d, T ++ ⟨#[]⟩, us, rfl, rfl, rfl, rfl, by omega, HTN.out, HFN, HUN, HI7⟩
                case measure => omega
end Go.Proofs.YtggdndmjfbiaiaaDoor
