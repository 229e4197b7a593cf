/-
  Texts that belong together: RefRule, RefRules, RuleKeeps, RefShut.
-/
import Derived.Test.YteoafohebgfjdaaGreatDoorAutoRuleSpec
import Derived.Test.YteoafohebgfjdaaGreatDoorRefParse
import Derived.Test.YteoafohebgfjdaaGreatDoorRefMatch
import Derived.Test.YteoafohebgfjdaaGreatDoorAutoRefRows
/-
  The reference's Check and Matches.
-/
namespace Go.Proofs.YteoafohebgfjdaaGreatDoor
open Go.RowKit
set_option maxRecDepth 100000

theorem mt_iff {t : ByteArray} : t.toList.isEmpty = true ↔ toL t = [] := by
  rw [Lib.toList_data]; unfold toL; exact List.isEmpty_iff
/-- What Parse tells of a core. -/
theorem refParse_of (L : List UInt8) (hL : L.length ≤ 64) (t : ByteArray) (ht : toL t = L) (w : World) :
    Calls Tryz.prog 91 #[.string t] w fun e w' => (∃ A n c, e = .returned (.tuple #[.slice A n c, .int .i64 ((if (parseOf L).isNone then 3 else 0 : Nat) : Int)])) ∧ Below w.heap.size w w' := by
  have hs : t.size ≤ 64 := by rw [← size_toL, ht]; exact hL
  refine (refParse_any t w (by omega)).mono ?_
  rintro e w' ⟨hb, h⟩
  rw [if_neg (by omega), ht] at h
  refine ⟨?_, hb⟩
  cases hp : parseOf L with
  | none => rw [hp] at h; exact ⟨none, 0, 0, h⟩
  | some g =>
    rw [hp] at h
    obtain ⟨A, l, c, h, _⟩ := h
    exact ⟨A, _, c, h⟩
/-- What Parse tells of a core that is right. -/
theorem refParse_some (L : List UInt8) (g : List GPart) (hg : parseOf L = some g) (hL : L.length ≤ 64) (t : ByteArray) (ht : toL t = L) (w : World) :
    Calls Tryz.prog 91 #[.string t] w fun e w' => ∃ (A : Option Addr) (l : List RPart) (c : Nat), e = .returned (.tuple #[.slice A l.length c, .int .i64 0]) ∧ RdP w' w'.heap.size A l ∧ SameL (l.map gOf) g ∧ l.length ≤ 64 ∧ Below w.heap.size w w' := by
  have hs : t.size ≤ 64 := by rw [← size_toL, ht]; exact hL
  refine (refParse_any t w (by omega)).mono ?_
  rintro e w' ⟨hb, h⟩
  rw [if_neg (by omega), ht, hg] at h
  obtain ⟨A, l, c, h1, h2, h3, h4⟩ := h
  exact ⟨A, l, c, h1, h2, h3, h4, hb⟩

set_option maxHeartbeats 4000000 in
theorem refCheck_any (kp : Bool) (pat : ByteArray) (w : World) (hs : (pat.size : Int) ≤ 1000000) :
    Calls Tryz.prog 90 #[.agg #[.bool kp, .string pat]] w fun e w' => e = .returned (.int .i64 (checkL (toL pat) : Nat)) ∧ Below w.heap.size w w' := by
  obtain ⟨K, hK⟩ : ∃ K, K = checkL (toL pat) := ⟨_, rfl⟩
  rw [← hK]
  have hlen := size_toL pat
  by_cases h64 : (64 : Int) < pat.size
  · have HK := hide (show K = 5 by rw [hK]; exact checkL_long (by omega))
    clear hK hlen
    go_enter Tryz.func90, Tryz.ntmps90
    go_wp2_with fail
    refine bodyPost_ret (results_tmp rfl _ _ _) rfl ⟨by rw [HK.out]; rfl, (Below.refl _ _).alloc (Nat.le_refl _) _⟩
  · have HP := hide (refParse_of (coreL (toL pat)) (by have := coreL_len (toL pat); omega))
    have HKE := hide (show coreL (toL pat) = [] → K = 3 from fun h => by rw [hK]; exact checkL_empty (by omega) h)
    have HKN := hide (show parseOf (coreL (toL pat)) = none → K = 3 from fun h => by rw [hK]; exact checkL_none (by omega) h)
    have HKS := hide (show coreL (toL pat) ≠ [] → ∀ g, parseOf (coreL (toL pat)) = some g → K = 0 from fun h g hg => by rw [hK]; exact (checkL_some (by omega) h hg).1)
    obtain ⟨o, ho⟩ : ∃ o, o = parseOf (coreL (toL pat)) := ⟨_, rfl⟩
    rw [← ho] at HP HKN HKS
    clear ho hK hlen
    go_enter Tryz.func90, Tryz.ntmps90
    go_wp2_with fail
    refine (core_any pat _ hs).mono ?_
    rintro e w1 ⟨t, rfl, ht, rfl⟩
    have ht : toL t = coreL (toL pat) := ht
    have HT := hide ht
    have HP2 := hide (HP.out t ht)
    clear HP
    cases o with
    | none =>
      have HK := hide (HKN.out rfl)
      clear ht HKN HKS HKE
      go_wp2_with (go_at_call 91; refine (HP2.out _).mono ?_; rintro e w1 ⟨⟨A, n, c, rfl⟩, hb1⟩)
      refine bodyPost_ret (results_tmp rfl _ _ _) rfl ⟨by rw [HK.out]; rfl, ((Below.refl _ w).alloc (Nat.le_refl _) _).trans (hb1.mono (by simp))⟩
    | some g =>
      cases he : t.toList.isEmpty with
      | true =>
        have HK := hide (HKE.out (by rw [← ht]; exact mt_iff.1 he))
        clear ht HKN HKS HKE
        go_wp2_with (go_at_call 91; refine (HP2.out _).mono ?_; rintro e w1 ⟨⟨A, n, c, rfl⟩, hb1⟩)
        refine bodyPost_ret (results_tmp rfl _ _ _) rfl ⟨by rw [HK.out]; rfl, ((Below.refl _ w).alloc (Nat.le_refl _) _).trans (hb1.mono (by simp))⟩
      | false =>
        have HK := hide (HKS.out (by rw [← ht]; intro h; rw [mt_iff.2 h] at he; cases he) g rfl)
        clear ht HKN HKS HKE
        go_wp2_with (go_at_call 91; refine (HP2.out _).mono ?_; rintro e w1 ⟨⟨A, n, c, rfl⟩, hb1⟩)
        refine bodyPost_ret (results_tmp rfl _ _ _) rfl ⟨by rw [HK.out]; rfl, ((Below.refl _ w).alloc (Nat.le_refl _) _).trans (hb1.mono (by simp))⟩

theorem RdP.step {w w' : World} {A : Option Addr} {l : List RPart} (h : RdP w w.heap.size A l) (hb : Below w.heap.size w w') : RdP w' w'.heap.size A l := fun k p hx => by
  obtain ⟨ad, A', c', e, hlt, hr, hl, hc⟩ := h k p hx
  exact ⟨ad, A', c', e, by have := hb.size; omega, hr.step hb, hl, fun j v hv => (hb.cell (by rw [add_block, add_block]; omega)).trans (hc j v hv)⟩
theorem slText_from (w : World) (ad : Addr) (L c j : Nat) (h1 : j ≤ L) (h3 : j < c) :
    (Instr.slice 66 (.slice (some ad) L c) (some (.int .i64 j)) none none).run Tryz.prog w = .ok (.slice (some (ad.add j)) (L - j) (c - j)) w := by
  have hc : ¬ c = j := by omega
  have a1 : (j : Int) ≤ L := by omega
  simp [Instr.slice, Instr.sliceBounds, Instr.sliceBound, asIntOf, run_underlying Tryz.underlying66, go_sem, hc, h1]
theorem slText_to (w : World) (ad : Addr) (L c m : Nat) (h2 : m ≤ c) :
    (Instr.slice 66 (.slice (some ad) L c) none (some (.int .i64 m)) none).run Tryz.prog w = .ok (.slice (some ad) m c) w := by
  simp [Instr.slice, Instr.sliceBounds, Instr.sliceBound, asIntOf, run_underlying Tryz.underlying66, go_sem, h2]
theorem Rd.from_ {w : World} {B k : Nat} {ad : Addr} {l : List ByteArray} (h : Rd w B (some ad) l) : Rd w B (some (ad.add k)) (l.drop k) := fun j x hx => by
  rw [List.getElem?_drop] at hx
  obtain ⟨ad', e, hb, hcell⟩ := h (k + j) x hx
  cases e
  refine ⟨ad.add k, rfl, by rw [add_block]; exact hb, ?_⟩
  have e : (ad.add k).add j = ad.add (k + j) := by
    unfold Addr.add
    by_cases hi : k = 0 <;> by_cases hj : j = 0 <;> simp [hi, hj, Nat.add_assoc]
  rw [e]; exact hcell

set_option maxHeartbeats 8000000 in
theorem refMatches_any (kp dir : Bool) (pat p : ByteArray) (w : World) (hs : (pat.size : Int) ≤ 1000000) (hp : (p.size : Int) ≤ 1000000) :
    Calls Tryz.prog 73 #[.agg #[.bool kp, .string pat], .string p, .bool dir] w fun e w' => e = .returned (.bool (matchesL (toL pat) (toL p) dir)) ∧ Below w.heap.size w w' := by
  obtain ⟨V, hV⟩ : ∃ V, V = matchesL (toL pat) (toL p) dir := ⟨_, rfl⟩
  rw [← hV]
  obtain ⟨K, hK⟩ : ∃ K, K = checkL (toL pat) := ⟨_, rfl⟩
  obtain ⟨wh, hwh⟩ : ∃ wh, wh = wholeL (toL pat) := ⟨_, rfl⟩
  obtain ⟨mu, hmu⟩ : ∃ mu, mu = mustL (toL pat) := ⟨_, rfl⟩
  have HBad := hide (show K ≠ 0 → V = false from fun h => by rw [hV]; exact matchesL_bad (by rw [← hK]; exact h))
  have HNo := hide (show namesL (toL p) = [] → V = false from fun h => by rw [hV]; exact matchesL_no h)
  have HDir := hide (show mu = true → dir = false → V = false from fun h h2 => by rw [hV]; exact matchesL_dir (by rw [← hmu]; exact h) h2)
  have HFits := hide (show K = 0 → namesL (toL p) ≠ [] → (mu = false ∨ dir = true) → V = fitsL (toL pat) (toL p) from fun h h2 h3 => by rw [hV]; exact matchesL_fits (by rw [← hK]; exact h) h2 (by rw [← hmu]; exact h3))
  have HOk := hide (show K = 0 → (coreL (toL pat)).length ≤ 64 ∧ parseOf (coreL (toL pat)) = some (partsL (toL pat)) from fun h => by
    obtain ⟨h1, _, h3⟩ := checkL_ok (hK.symm.trans h)
    exact ⟨by have := coreL_len (toL pat); omega, h3⟩)
  have HCheck := hide (show ∀ W, Calls Tryz.prog 90 #[.agg #[.bool kp, .string pat]] W fun e w' => e = .returned (.int .i64 (K : Nat)) ∧ Below W.heap.size W w' from fun W => by rw [hK]; exact refCheck_any kp pat W hs)
  have HCore := hide (show ∀ W, Calls Tryz.prog 89 #[.string pat] W fun e w' => ∃ t, e = .returned (.tuple #[.string t, .bool wh, .bool mu]) ∧ toL t = coreL (toL pat) ∧ w' = W from fun W => by rw [hwh, hmu]; exact core_any pat W hs)
  have HW := hide hwh
  clear hV hK hmu hwh
  go_enter Tryz.func73, Tryz.ntmps73
  go_wp2_with fail
  refine (HCore.out _).mono ?_
  rintro e w1 ⟨t, rfl, ht, rfl⟩
  have HT := hide ht
  clear ht
  go_wp2_with fail
  refine (refNames_any p _ hp).mono ?_
  rintro e w2 ⟨A, c, cs, rfl, hcs, hcap, hR, hB2⟩
  have hB : Below w.heap.size w w2 := ((Below.refl _ w).alloc (Nat.le_refl _) _).trans (hB2.mono (by simp))
  have r2 : w2.heap[w.heap.size]? = some (.cells #[.bool kp, .string pat] 57 (0, 0)) := (hB2.block _ (by simp)).trans (World.alloc_heap_new w _)
  have c0 : w2.cell? ⟨w.heap.size, 0, none⟩ = some (.bool kp) := cell_of_row _ _ _ _ _ _ r2
  have c1 : w2.cell? ⟨w.heap.size, 1, none⟩ = some (.string pat) := cell_of_row _ _ _ _ _ _ r2
  clear hB2 r2
  obtain ⟨hn16, hsz⟩ := names_size hcs hp
  have HSZ := hide hsz
  have HC := hide hcs
  clear hsz hcs
  by_cases hK0 : K = 0
  · subst hK0
    by_cases hl0 : cs.length = 0
    · have HVf := hide (HNo.out (by rw [← HC.out, List.length_eq_zero_iff.1 hl0]; rfl))
      have hl0i : (cs.length : Int) = 0 := by omega
      clear hl0
      go_wp2_with (go_at_call 90; refine (HCheck.out _).mono ?_; rintro e w3 ⟨rfl, hb3⟩)
      exact bodyPost_ret (results_tmp rfl _ _ _) rfl ⟨by rw [HVf.out]; rfl, hB.trans (hb3.mono hB.size)⟩
    · have hne : namesL (toL p) ≠ [] := by
        rw [← HC.out]; intro e
        exact hl0 (by simpa using congrArg List.length e)
      have hlni : ((cs.length : Int) == 0) = false := by rw [beq_eq_false_iff_ne]; omega
      obtain ⟨ad, rfl⟩ : ∃ ad, A = some ad := by
        obtain ⟨ad, e, _⟩ := hR 0 _ (List.getElem?_eq_getElem (by omega))
        exact ⟨ad, e⟩
      have hmd : (mu = true ∧ dir = false) ∨ mu = false ∨ (mu = true ∧ dir = true) := by cases mu <;> cases dir <;> simp
      rcases hmd with ⟨rfl, rfl⟩ | hmd
      · have HVf := hide (HDir.out rfl rfl)
        clear hl0
        go_wp2_with (go_at_call 90; refine (HCheck.out _).mono ?_; rintro e w3 ⟨rfl, hb3⟩)
        exact bodyPost_ret (results_tmp rfl _ _ _) rfl ⟨by rw [HVf.out]; rfl, hB.trans (hb3.mono hB.size)⟩
      · have HVf := hide (HFits.out rfl hne (hmd.elim .inl fun h => .inr h.2))
        obtain ⟨ok1, ok2⟩ := HOk.out rfl
        have HParse := hide (fun W => refParse_some _ _ ok2 ok1 t HT.out W)
        have HNE := hide hl0
        clear hl0 hne ok1 ok2
        rcases hmd with rfl | ⟨rfl, rfl⟩
        all_goals
          go_wp2_with (go_at_call 90; refine (HCheck.out _).mono ?_; rintro e w3 ⟨rfl, hb3⟩)
          refine (HParse.out _).mono ?_
          rintro e w4 ⟨A4, l4, c4, rfl, hrd4, hsame, hl64, hb4⟩
          have hB4 := (hB.trans (hb3.mono hB.size)).trans (hb4.mono (Nat.le_trans hB.size hb3.size))
          have hR4 := ((hR.below hb3 (Nat.le_refl _)).below hb4 hb3.size).mono (B' := w4.heap.size) (Nat.le_trans hb3.size hb4.size)
          have HSAME := hide hsame
          clear hb3 hb4 hB c0 c1 hsame hR
          go_wp2_with fail
          go_loopg [13] cs.length (fun gk iv wr => ∃ i : Nat, iv = .int .i64 i ∧ i + gk = cs.length ∧ (wh = true → i = 0) ∧ Hid (((tailsL (toL p)).take i).any (acc (partsL (toL pat))) = false) ∧ Below w.heap.size w wr ∧ Rd wr wr.heap.size (some ad) cs ∧ RdP wr wr.heap.size A4 l4)
          case atStart => exact ⟨0, rfl, by omega, fun _ => rfl, hide (by simp), hB4, hR4, hrd4⟩
          case round =>
            obtain ⟨i, rfl, hig, hwi, HT2, hBr, hRr, hPr⟩ := hrel
            clear hB4 hR4 hrd4
            cases gk with
            | zero =>
              obtain rfl : i = cs.length := by omega
              have hwf : wh = false := by
                cases wh with
                | false => rfl
                | true => exact absurd (hwi rfl) HNE.out
              have HV := hide (show V = false by rw [HVf.out]; exact fits_all (by rw [show (namesL (toL p)).length = cs.length by rw [← HC.out]; simp]; exact HT2.out) (by rw [← HW.out]; exact hwf))
              clear hwi hwf
              go_wp2_with fail
              exact bodyPost_ret (results_tmp rfl _ _ _) rfl ⟨by rw [HV.out]; rfl, hBr⟩
            | succ g0 =>
              have hi : i < cs.length := by omega
              have hii : (i : Int) < cs.length := by omega
              obtain ⟨b, hb⟩ : ∃ b, b = acc (partsL (toL pat)) (glueL ((namesL (toL p)).drop i)) := ⟨_, rfl⟩
              have hst := fits_step (pat := toL pat) (p := toL p) (i := i) (by rw [← HC.out]; simpa using hi) HT2.out
              rw [← hb] at hst
              have hsl := fun W => slText_from W ad cs.length c i (by omega) (by omega)
              have hgl := refGlue_any (some (ad.add i)) (cs.drop i) (c - i) wr.heap.size wr hRr.from_ (by rw [List.length_drop]; omega) (fun k x hx => by rw [List.getElem?_drop] at hx; exact HSZ.out _ x hx)
              rw [List.length_drop, List.map_drop, HC.out] at hgl
              have HGlue := hide (show Calls Tryz.prog 58 #[.slice (some (ad.add i)) (cs.length - i) (c - i)] wr fun e w' => ∃ g : ByteArray, e = .returned (.string g) ∧ toL g = glueL ((namesL (toL p)).drop i) ∧ w' = wr from
                hgl.mono fun e w' h => by
                  obtain ⟨⟨g, h1, h2, _⟩, h3⟩ := h
                  exact ⟨g, h1, h2, h3⟩)
              have HMatch := hide (show ∀ g : ByteArray, toL g = glueL ((namesL (toL p)).drop i) → Calls Tryz.prog 92 #[.slice A4 l4.length c4, .string g] wr fun e w' => e = .returned (.bool b) ∧ Below wr.heap.size wr w' from fun g hg => by
                have h := refMatch_any A4 l4 c4 g wr hPr (by omega) (by have h2 := tail_len (toL p) i; rw [← hg, size_toL, size_toL] at h2; omega)
                rw [acc_congr HSAME.out, hg, ← hb] at h
                exact h)
              have HST := hide hst
              clear hb hgl hst
              cases b with
              | true =>
                have HV := hide (show V = true by rw [HVf.out]; exact HST.out.2 rfl (fun h => hwi (by rw [HW.out]; exact h)))
                clear hwi
                go_wp2_with (first | (go_at_call 58; refine (HGlue.out).mono ?_; rintro e w5 ⟨g, rfl, hg, rfl⟩) | (go_at_call 92; refine (HMatch.out g hg).mono ?_; rintro e w6 ⟨rfl, hb6⟩))
                exact bodyPost_ret (results_tmp rfl _ _ _) rfl ⟨by rw [HV.out]; rfl, hBr.trans (hb6.mono hBr.size)⟩
              | false =>
                have hiw : IntKind.i64.wrap ((i : Int) + 1) = ((i + 1 : Nat) : Int) := by rw [IntWalk.i64_in _ (by omega)]; rfl
                have hN := HST.out.1 rfl
                have HN := hide hN
                cases wh with
                | true =>
                  obtain rfl := hwi rfl
                  have HV := hide (show V = false by rw [HVf.out]; exact fits_whole hN HW.out.symm)
                  clear hwi hN
                  go_wp2_with (first | (go_at_call 58; refine (HGlue.out).mono ?_; rintro e w5 ⟨g, rfl, hg, rfl⟩) | (go_at_call 92; refine (HMatch.out g hg).mono ?_; rintro e w6 ⟨rfl, hb6⟩))
                  exact bodyPost_ret (results_tmp rfl _ _ _) rfl ⟨by rw [HV.out]; rfl, hBr.trans (hb6.mono hBr.size)⟩
                | false =>
                  clear hwi hN
                  go_wp2_with (first | (go_at_call 58; refine (HGlue.out).mono ?_; rintro e w5 ⟨g, rfl, hg, rfl⟩) | (go_at_call 92; refine (HMatch.out g hg).mono ?_; rintro e w6 ⟨rfl, hb6⟩))
                  go_roundg g0
                  case rel => exact ⟨i + 1, rfl, by omega, (fun h => absurd h (by decide)), HN, hBr.trans (hb6.mono hBr.size), (hRr.below hb6 (Nat.le_refl _)).mono hb6.size, hPr.step hb6⟩
                  case measure => omega
  · have HVf := hide (HBad.out hK0)
    have hk1 : ((K : Int) == 0) = false := by rw [beq_eq_false_iff_ne]; omega
    have hk2 : ((K : Int) != 0) = true := by rw [bne, hk1]; rfl
    clear hK0
    go_wp2_with (go_at_call 90; refine (HCheck.out _).mono ?_; rintro e w3 ⟨rfl, hb3⟩)
    exact bodyPost_ret (results_tmp rfl _ _ _) rfl ⟨by rw [HVf.out]; rfl, hB.trans (hb3.mono hB.size)⟩
end Go.Proofs.YteoafohebgfjdaaGreatDoor
/-
  The reference's CheckAll, Keeps and Shut, over rules that lie at an address.
-/
namespace Go.Proofs.YteoafohebgfjdaaGreatDoor
open Go.RowKit
set_option maxRecDepth 100000

/-- Rules that lie at an address, one behind the other, below block B. -/
def RdR (w : World) (B : Nat) (A : Option Addr) (l : List (Bool × ByteArray)) : Prop :=
  ∀ k r, l[k]? = some r → ∃ ad : Addr, A = some ad ∧ ad.block < B ∧ w.cell? (ad.add (k * 2)) = some (.bool r.1) ∧ w.cell? ⟨(ad.add (k * 2)).block, (ad.add (k * 2)).off + 1, none⟩ = some (.string r.2)
theorem RdR.below {w w' : World} {B B' : Nat} {A : Option Addr} {l : List (Bool × ByteArray)} (h : RdR w B A l) (hb : Below B' w w') (hB : B ≤ B') : RdR w' B A l := fun k x hx => by
  obtain ⟨ad, e, hlt, h0, h1⟩ := h k x hx
  exact ⟨ad, e, hlt, (hb.cell (by rw [add_block]; omega)).trans h0, (hb.cell (p := ⟨(ad.add (k * 2)).block, _, none⟩) (by show (ad.add (k * 2)).block < _; rw [add_block]; omega)).trans h1⟩
theorem RdR.mono {w : World} {B B' : Nat} {A : Option Addr} {l : List (Bool × ByteArray)} (h : RdR w B A l) (hB : B ≤ B') : RdR w B' A l := fun k x hx => by
  obtain ⟨ad, e, hlt, hc⟩ := h k x hx
  exact ⟨ad, e, by omega, hc⟩
theorem RdR.step {w w' : World} {A : Option Addr} {l : List (Bool × ByteArray)} (h : RdR w w.heap.size A l) (hb : Below w.heap.size w w') : RdR w' w'.heap.size A l := (h.below hb (Nat.le_refl _)).mono hb.size
theorem RdR.nil (w : World) (B : Nat) (A : Option Addr) : RdR w B A [] := fun k x hx => by simp at hx
/-- The rules, as plain lists. -/
def rulesL (l : List (Bool × ByteArray)) : List (Bool × List UInt8) := l.map fun r => (r.1, toL r.2)
/-- What is wrong first with rules. -/
def firstBad : List (Bool × List UInt8) → Nat
  | [] => 0
  | r :: t => if checkL r.2 = 0 then firstBad t else checkL r.2
def checkAllL (l : List (Bool × List UInt8)) : Nat := if 16 < l.length then 5 else firstBad l
theorem rules_drop (l : List (Bool × ByteArray)) (i : Nat) (r : Bool × ByteArray) (h : l[i]? = some r) : rulesL (l.drop i) = (r.1, toL r.2) :: rulesL (l.drop (i + 1)) := by
  obtain ⟨hlt, e⟩ := List.getElem?_eq_some_iff.1 h
  rw [List.drop_eq_getElem_cons hlt, e]; rfl
/-- All patterns are of no more bytes than so many. -/
def Few (l : List (Bool × ByteArray)) : Prop := ∀ (k : Nat) (r : Bool × ByteArray), l[k]? = some r → (r.2.size : Int) ≤ 1000000

set_option maxHeartbeats 4000000 in
theorem refKeeps_any (A : Option Addr) (l : List (Bool × ByteArray)) (c : Nat) (p : ByteArray) (dir : Bool) (w : World) (hA : RdR w w.heap.size A l) (hf : Few l) (hl : (l.length : Int) ≤ 1000000) (hp : (p.size : Int) ≤ 1000000) :
    Calls Tryz.prog 60 #[.slice A l.length c, .string p, .bool dir] w fun e w' => e = .returned (.bool (keepsL (toL p) dir (rulesL l))) ∧ Below w.heap.size w w' := by
  obtain ⟨V, hV⟩ : ∃ V, V = keepsL (toL p) dir (rulesL l) := ⟨_, rfl⟩
  rw [← hV]
  have HV := hide hV
  have HF := hide hf
  clear hV hf
  go_enter Tryz.func60, Tryz.ntmps60
  go_wp2_with fail
  go_loopg [7] l.length (fun gk iv wr => ∃ i : Nat, iv = .int .i64 i ∧ i + gk = l.length ∧ Hid (keepsL (toL p) dir (rulesL (l.drop i)) = V) ∧ Below w.heap.size w wr ∧ RdR wr wr.heap.size A l)
  case atStart => exact ⟨0, rfl, by omega, hide (by rw [HV.out]; rfl), Below.refl _ _, hA⟩
  case round =>
    obtain ⟨i, rfl, hig, HB, hB, hR⟩ := hrel
    clear hA
    cases gk with
    | zero =>
      obtain rfl : i = l.length := by omega
      have HE := hide (show V = true by rw [← HB.out, List.drop_length]; rfl)
      clear HB
      go_wp2_with fail
      exact bodyPost_ret (results_tmp rfl _ _ _) rfl ⟨by rw [HE.out]; rfl, hB⟩
    | succ g0 =>
      have hii : (i : Int) < l.length := by omega
      obtain ⟨r, hr⟩ : ∃ r, l[i]? = some r := ⟨_, List.getElem?_eq_getElem (by omega)⟩
      obtain ⟨ad, rfl, hlt, c0, c1⟩ := hR i r hr
      obtain ⟨K, hK⟩ : ∃ K, K = matchesL (toL r.2) (toL p) dir := ⟨_, rfl⟩
      have hd := HB.out
      rw [rules_drop l i r hr] at hd
      unfold keepsL at hd
      simp only at hd
      rw [← hK] at hd
      have HM := hide (show ∀ W, Calls Tryz.prog 73 #[.agg #[.bool r.1, .string r.2], .string p, .bool dir] W fun e w' => e = .returned (.bool K) ∧ Below W.heap.size W w' from fun W => by rw [hK]; exact refMatches_any r.1 dir r.2 p W (HF.out i r hr) hp)
      clear hK HB hr
      cases K with
      | false =>
        rw [if_neg (by decide)] at hd
        have HD := hide hd
        have hiw : IntKind.i64.wrap ((i : Int) + 1) = ((i + 1 : Nat) : Int) := by rw [IntWalk.i64_in _ (by omega)]; rfl
        clear hd
        go_wp2_with (go_at_call 73; refine (HM.out _).mono ?_; rintro e w3 ⟨rfl, hb3⟩)
        go_roundg g0
        case rel => exact ⟨i + 1, rfl, by omega, HD, hB.trans (hb3.mono hB.size), hR.step hb3⟩
        case measure => omega
      | true =>
        rw [if_pos rfl] at hd
        have HD := hide hd
        clear hd
        go_upto_region 5 with (go_at_call 73; refine (HM.out _).mono ?_; rintro e w3 ⟨rfl, hb3⟩)
        have d0 := (hb3.cell (p := ad.add (i * 2)) (by rw [add_block]; exact hlt)).trans c0
        have hB3 := hB.trans (hb3.mono hB.size)
        clear c0 c1 hR hb3
        go_wp2_with fail
        exact bodyPost_ret (results_tmp rfl _ _ _) rfl ⟨by rw [← HD.out]; rfl, hB3⟩
end Go.Proofs.YteoafohebgfjdaaGreatDoor
/-
  The program's Keeps, over rules that lie at an address.
-/
namespace Go.Proofs.YteoafohebgfjdaaGreatDoor
open Go.RowKit
set_option maxRecDepth 100000

def IdxTo (l : List (Bool × ByteArray)) (V : Bool) (w : World) (e : Ending) (w' : World) : Prop :=
  ∃ r : Int, e = .returned (.int .i64 r) ∧ Below w.heap.size w w' ∧ ((r = -1 ∧ V = true) ∨ ∃ (k : Nat) (q : Bool × ByteArray), r = k ∧ l[k]? = some q ∧ V = q.1)
set_option maxHeartbeats 4000000 in
theorem index_func (A : Option Addr) (l : List (Bool × ByteArray)) (c : Nat) (p : ByteArray) (dir : Bool) (w : World) (hA : RdR w w.heap.size A l) (hf : Few l) (hl : (l.length : Int) ≤ 1000000) (hp : (p.size : Int) ≤ 1000000) :
    Calls Tryz.prog 99 #[.slice A l.length c, .func (.func 100) #[.agg #[.string p, .bool dir]] #[]] w (IdxTo l (keepsL (toL p) dir (rulesL l)) w) := by
  obtain ⟨V, hV⟩ : ∃ V, V = keepsL (toL p) dir (rulesL l) := ⟨_, rfl⟩
  rw [← hV]
  have HV := hide hV
  have HF := hide hf
  clear hV hf
  go_enter Tryz.func99, Tryz.ntmps99
  go_wp2_with fail
  go_loopg [8] l.length (fun gk iv wr => ∃ i : Nat, iv = .int .i64 i ∧ i + gk = l.length ∧ Hid (keepsL (toL p) dir (rulesL (l.drop i)) = V) ∧ Below w.heap.size w wr ∧ RdR wr wr.heap.size A l)
  case atStart => exact ⟨0, rfl, by omega, hide (by rw [HV.out]; rfl), Below.refl _ _, hA⟩
  case round =>
    obtain ⟨i, rfl, hig, HB, hB, hR⟩ := hrel
    clear hA
    cases gk with
    | zero =>
      obtain rfl : i = l.length := by omega
      have HE := hide (show V = true by rw [← HB.out, List.drop_length]; rfl)
      clear HB
      go_wp2_with fail
      exact bodyPost_ret (results_tmp rfl _ _ _) rfl ⟨-1, rfl, hB, .inl ⟨rfl, HE.out⟩⟩
    | succ g0 =>
      have hii : (i : Int) < l.length := by omega
      obtain ⟨r, hr⟩ : ∃ r, l[i]? = some r := ⟨_, List.getElem?_eq_getElem (by omega)⟩
      obtain ⟨ad, rfl, hlt, c0, c1⟩ := hR i r hr
      obtain ⟨K, hK⟩ : ∃ K, K = matchesL (toL r.2) (toL p) dir := ⟨_, rfl⟩
      have hd := HB.out
      rw [rules_drop l i r hr] at hd
      unfold keepsL at hd
      simp only at hd
      rw [← hK] at hd
      have HM := hide (show ∀ W, Calls Tryz.prog 100 #[.agg #[.string p, .bool dir], .agg #[.bool r.1, .string r.2]] W fun e w' => e = .returned (.bool K) ∧ Below W.heap.size W w' from fun W => by rw [hK]; exact of_any r.1 dir r.2 p W (HF.out i r hr) hp)
      have HR := hide hr
      clear hK HB hr
      cases K with
      | false =>
        rw [if_neg (by decide)] at hd
        have HD := hide hd
        have hiw : IntKind.i64.wrap ((i : Int) + 1) = ((i + 1 : Nat) : Int) := by rw [IntWalk.i64_in _ (by omega)]; rfl
        clear hd
        go_wp2_with (go_at_call 100; refine (HM.out _).mono ?_; rintro e w3 ⟨rfl, hb3⟩)
        go_roundg g0
        case rel => exact ⟨i + 1, rfl, by omega, HD, hB.trans (hb3.mono hB.size), hR.step hb3⟩
        case measure => omega
      | true =>
        rw [if_pos rfl] at hd
        have HD := hide hd
        clear hd
        go_wp2_with (go_at_call 100; refine (HM.out _).mono ?_; rintro e w3 ⟨rfl, hb3⟩)
        exact bodyPost_ret (results_tmp rfl _ _ _) rfl ⟨i, rfl, hB.trans (hb3.mono hB.size), .inr ⟨i, r, rfl, HR.out, HD.out.symm⟩⟩

set_option maxHeartbeats 4000000 in
theorem keeps_any (A : Option Addr) (l : List (Bool × ByteArray)) (c : Nat) (p : ByteArray) (dir : Bool) (w : World) (hA : RdR w w.heap.size A l) (hf : Few l) (hl : (l.length : Int) ≤ 1000000) (hp : (p.size : Int) ≤ 1000000) :
    Calls Tryz.prog 86 #[.slice A l.length c, .string p, .bool dir] w fun e w' => e = .returned (.bool (keepsL (toL p) dir (rulesL l))) ∧ Below w.heap.size w w' := by
  obtain ⟨V, hV⟩ : ∃ V, V = keepsL (toL p) dir (rulesL l) := ⟨_, rfl⟩
  have HI := hide (index_func A l c p dir w hA hf hl hp)
  rw [← hV] at HI ⊢
  clear hV hf
  go_enter Tryz.func86, Tryz.ntmps86
  go_wp2_with fail
  refine (HI.out).mono ?_
  rintro e w1 ⟨r, rfl, hb1, ⟨rfl, hv⟩ | ⟨k, q, rfl, hq, hv⟩⟩
  · have HV := hide hv
    clear hv
    go_wp2_with fail
    exact bodyPost_ret (results_tmp rfl _ _ _) rfl ⟨by rw [HV.out]; rfl, hb1⟩
  · have HV := hide hv
    have hkl : (k : Int) < l.length := by have := (List.getElem?_eq_some_iff.1 hq).1; omega
    have hk0 : (0 : Int) ≤ k := by omega
    obtain ⟨ad, rfl, hlt, c0, _⟩ := (hA.step hb1) k q hq
    clear hv hq hA
    go_wp2_with fail
    exact bodyPost_ret (results_tmp rfl _ _ _) rfl ⟨by rw [HV.out]; rfl, hb1⟩
end Go.Proofs.YteoafohebgfjdaaGreatDoor
/-
  The reference's Shut.
-/
namespace Go.Proofs.YteoafohebgfjdaaGreatDoor
open Go.RowKit
set_option maxRecDepth 100000

theorem shut_step {l : List (Bool × List UInt8)} {p : List UInt8} {i : Nat} (h1 : 1 ≤ i) (hi : i < (namesL p).length) (h : (((List.range (namesL p).length).take i).drop 1).any (fun i => !keepsL (glueL ((namesL p).take i)) true l) = false) :
    (keepsL (glueL ((namesL p).take i)) true l = true → (((List.range (namesL p).length).take (i + 1)).drop 1).any (fun i => !keepsL (glueL ((namesL p).take i)) true l) = false) ∧ (keepsL (glueL ((namesL p).take i)) true l = false → ∀ dir, shutL l p dir = true) := by
  have hlt : i < (List.range (namesL p).length).length := by simpa using hi
  refine ⟨fun hk => ?_, fun hk dir => ?_⟩
  · rw [List.take_succ_eq_append_getElem hlt, List.drop_append_of_le_length (by rw [List.length_take]; omega), List.any_append, h]
    simp [hk]
  · unfold shutL
    rw [Bool.or_eq_true]
    left
    rw [List.any_eq_true]
    refine ⟨i, ?_, by simp [hk]⟩
    rw [List.mem_iff_getElem]
    exact ⟨i - 1, by simp; omega, by simp; omega⟩
theorem shut_all {l : List (Bool × List UInt8)} {p : List UInt8} (dir : Bool) (h : (((List.range (namesL p).length).take (namesL p).length).drop 1).any (fun i => !keepsL (glueL ((namesL p).take i)) true l) = false) : shutL l p dir = !keepsL p dir l := by
  unfold shutL
  rw [List.take_of_length_le (by simp)] at h
  rw [h]; rfl

set_option maxHeartbeats 8000000 in
theorem refShut_any (A : Option Addr) (l : List (Bool × ByteArray)) (c : Nat) (p : ByteArray) (dir : Bool) (w : World) (hA : RdR w w.heap.size A l) (hf : Few l) (hl : (l.length : Int) ≤ 1000000) (hp : (p.size : Int) ≤ 1000000) :
    Calls Tryz.prog 40 #[.slice A l.length c, .string p, .bool dir] w fun e w' => e = .returned (.bool (shutL (rulesL l) (toL p) dir)) ∧ Below w.heap.size w w' := by
  obtain ⟨V, hV⟩ : ∃ V, V = shutL (rulesL l) (toL p) dir := ⟨_, rfl⟩
  rw [← hV]
  have HV := hide hV
  have HKeep := hide (fun (q : ByteArray) (d : Bool) (W : World) (h : RdR W W.heap.size A l) (hq : (q.size : Int) ≤ 1000000) => refKeeps_any A l c q d W h hf hl hq)
  clear hV hf
  go_enter Tryz.func40, Tryz.ntmps40
  go_wp2_with fail
  refine (refNames_any p _ hp).mono ?_
  rintro e w2 ⟨A2, c2, cs, rfl, hcs, hcap, hR, hB2⟩
  have hRR := hA.step hB2
  obtain ⟨hn16, hsz⟩ := names_size hcs hp
  have HSZ := hide hsz
  have HC := hide hcs
  have hnl : (namesL (toL p)).length = cs.length := by rw [← hcs]; simp
  have HNL := hide hnl
  clear hsz hcs hA hnl
  go_wp2_with fail
  go_loopg [8] cs.length (fun gk iv wr => ∃ i : Nat, iv = .int .i64 i ∧ 1 ≤ i ∧ i + gk = cs.length + 1 ∧ Hid ((((List.range (namesL (toL p)).length).take i).drop 1).any (fun i => !keepsL (glueL ((namesL (toL p)).take i)) true (rulesL l)) = false) ∧ Below w.heap.size w wr ∧ Rd wr wr.heap.size A2 cs ∧ RdR wr wr.heap.size A l)
  case atStart => exact ⟨1, rfl, by omega, by omega, hide (by
    cases (namesL (toL p)).length with
    | zero => rfl
    | succ n => rw [List.range_succ_eq_map]; rfl), hB2, hR, hRR⟩
  case round =>
    obtain ⟨i, rfl, h1, hig, HB, hB, hRr, hRl⟩ := hrel
    clear hR hRR hB2
    by_cases hlt : (i : Int) < cs.length
    · obtain ⟨ad, rfl⟩ : ∃ ad, A2 = some ad := by
        obtain ⟨ad, e, _⟩ := hRr 0 _ (List.getElem?_eq_getElem (by omega))
        exact ⟨ad, e⟩
      have hi : i < (namesL (toL p)).length := by rw [HNL.out]; omega
      have hst := shut_step (l := rulesL l) (p := toL p) h1 hi HB.out
      have hsl := fun W => slText_to W ad cs.length c2 i (by omega)
      have hlen : (cs.take i).length = i := by rw [List.length_take]; omega
      have hgl := refGlue_any (some ad) (cs.take i) c2 wr.heap.size wr (hRr.take i) (by rw [hlen]; omega) (fun k x hx => by
        rw [List.getElem?_take] at hx
        split at hx
        · exact HSZ.out _ x hx
        · cases hx)
      rw [hlen, List.map_take, HC.out] at hgl
      obtain ⟨b, hb⟩ : ∃ b, b = keepsL (glueL ((namesL (toL p)).take i)) true (rulesL l) := ⟨_, rfl⟩
      rw [← hb] at hst
      have HGlue := hide (show Calls Tryz.prog 58 #[.slice (some ad) i c2] wr fun e w' => ∃ g : ByteArray, e = .returned (.string g) ∧ toL g = glueL ((namesL (toL p)).take i) ∧ w' = wr from
        hgl.mono fun e w' h => by
          obtain ⟨⟨g, h1, h2, _⟩, h3⟩ := h
          exact ⟨g, h1, h2, h3⟩)
      have HK2 := hide (show ∀ g : ByteArray, toL g = glueL ((namesL (toL p)).take i) → Calls Tryz.prog 60 #[.slice A l.length c, .string g, .bool true] wr fun e w' => e = .returned (.bool b) ∧ Below wr.heap.size wr w' from fun g hg => by
        have h := HKeep.out g true wr hRl (by have h2 := head_len (toL p) i; rw [← hg, size_toL, size_toL] at h2; omega)
        rw [hg, ← hb] at h
        exact h)
      have HST := hide hst
      have HI := hide hi
      clear hgl hst hb hlen hi
      cases b with
      | true =>
        have HN := hide (HST.out.1 rfl)
        have hiw : IntKind.i64.wrap ((i : Int) + 1) = ((i + 1 : Nat) : Int) := by rw [IntWalk.i64_in _ (by omega)]; rfl
        clear HB HST
        go_wp2_with (first | (go_at_call 58; refine (HGlue.out).mono ?_; rintro e w5 ⟨g, rfl, hg, rfl⟩) | (go_at_call 60; refine (HK2.out g hg).mono ?_; rintro e w6 ⟨rfl, hb6⟩))
        go_roundg (gk - 1)
        case rel => exact ⟨i + 1, rfl, by omega, by omega, HN, hB.trans (hb6.mono hB.size), (hRr.below hb6 (Nat.le_refl _)).mono hb6.size, hRl.step hb6⟩
        case measure => omega
      | false =>
        have HF := hide (show V = true by rw [HV.out]; exact HST.out.2 rfl dir)
        clear HB HST
        go_wp2_with (first | (go_at_call 58; refine (HGlue.out).mono ?_; rintro e w5 ⟨g, rfl, hg, rfl⟩) | (go_at_call 60; refine (HK2.out g hg).mono ?_; rintro e w6 ⟨rfl, hb6⟩))
        exact bodyPost_ret (results_tmp rfl _ _ _) rfl ⟨by rw [HF.out]; rfl, hB.trans (hb6.mono hB.size)⟩
    · have hA := shut_all (l := rulesL l) (p := toL p) dir (by
        have h := HB.out
        rw [List.take_of_length_le (by simp [HNL.out]; omega)] at h
        rw [List.take_of_length_le (by simp)]
        exact h)
      obtain ⟨b, hb⟩ : ∃ b, b = keepsL (toL p) dir (rulesL l) := ⟨_, rfl⟩
      have HF := hide (show V = !b by rw [HV.out, hA, hb])
      have HK2 := hide (show Calls Tryz.prog 60 #[.slice A l.length c, .string p, .bool dir] wr fun e w' => e = .returned (.bool b) ∧ Below wr.heap.size wr w' from by rw [hb]; exact HKeep.out p dir wr hRl hp)
      clear hA hb HB
      go_wp2_with (go_at_call 60; refine (HK2.out).mono ?_; rintro e w6 ⟨rfl, hb6⟩)
      exact bodyPost_ret (results_tmp rfl _ _ _) rfl ⟨by rw [HF.out]; rfl, hB.trans (hb6.mono hB.size)⟩
end Go.Proofs.YteoafohebgfjdaaGreatDoor
