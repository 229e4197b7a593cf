/-
  Texts that belong together: PbMath, PbClash, PbLaw.
-/
import Derived.Test.YtobgbheodlpclaaAutoSrAwake
import Derived.Test.YtobgbheodlpclaaPbA
import Derived.Test.YtobgbheodlpclaaAutoSrVals
import Derived.Test.YtobgbheodlpclaaBkBlocks
import Derived.Test.YtobgbheodlpclaaMixRefOf
import Derived.Test.YtobgbheodlpclaaAutoTkSame
import Derived.Test.YtobgbheodlpclaaAutoRollStep
import Derived.Deep.QuietTactic
/-
  What old blocks were found in is put together again (plain).
-/
namespace Go.Proofs.Ytobgbheodlpclaa
open Go.RowKit
set_option maxRecDepth 100000

theorem stepO_all {P : Tk → Prop} (hm : ∀ a t c, mergeT a t = some c → P a → P t → P c) {o : List Tk} {t : Tk} (ho : ∀ x ∈ o, P x) (ht : P t) : ∀ x ∈ stepO o t, P x := by
  rcases snoc_cases o with rfl | ⟨p, a, rfl⟩
  · rw [stepO_nil]
    intro x hx
    obtain rfl := List.mem_singleton.1 hx
    exact ht
  · rw [stepO_snoc]
    have ha := ho a (by simp)
    have hp : ∀ x ∈ p, P x := fun x hx => ho x (List.mem_append_left _ hx)
    cases hc : mergeT a t with
    | none =>
      intro x hx
      rcases List.mem_append.1 hx with hx | hx
      · exact ho x hx
      · obtain rfl := List.mem_singleton.1 hx; exact ht
    | some c =>
      intro x hx
      rcases List.mem_append.1 hx with hx | hx
      · exact hp x hx
      · obtain rfl := List.mem_singleton.1 hx; exact hm a t _ hc ha ht
theorem fold_all {P : Tk → Prop} (hm : ∀ a t c, mergeT a t = some c → P a → P t → P c) : ∀ (q o : List Tk), (∀ x ∈ o, P x) → (∀ x ∈ q, P x) → ∀ x ∈ q.foldl stepO o, P x
  | [], _, ho, _ => ho
  | _ :: q, _, ho, hq => fold_all hm q _ (stepO_all hm ho (hq _ List.mem_cons_self)) (fun x hx => hq x (List.mem_cons_of_mem _ hx))
theorem merge_end {n : Int} (hn : 0 ≤ n) (a t c : Tk) (h : mergeT a t = some c) (_ : a.from_ + a.many ≤ n) (ht : t.from_ + t.many ≤ n) : c.from_ + c.many ≤ n := by
  unfold mergeT at h
  split at h
  · split at h
    · injection h with h; subst h; simpa using hn
    · cases h
  · split at h
    · rename_i h1
      injection h with h
      subst h
      show a.from_ + (a.many + t.many) ≤ n
      omega
    · cases h
theorem refS_end (bl : List Sg) (n tl : Nat) (ls : Sg) (N : Int) (hN : (bl.length : Int) ≤ N) (hT : tl ≠ 0 → (bl.length : Int) + 1 ≤ N) : ∀ (f : Nat) (b : List UInt8) (nx : Nat), ∀ t ∈ refS bl n tl ls f b nx, t.from_ + t.many ≤ N
  | 0, _, _, t, h => by cases h
  | f + 1, [], _, t, h => by cases h
  | f + 1, x :: r, nx, t, h => by
    have hbyte : (byteT x).from_ + (byteT x).many ≤ N := by show (0 : Int) + 0 ≤ N; omega
    rw [refS_cons] at h
    split at h
    · split at h
      · rename_i k hk
        rcases List.mem_cons.1 h with rfl | h
        · have := whichL_lt hk
          show (k : Int) + 1 ≤ N
          omega
        · exact refS_end bl n tl ls N hN hT f _ _ t h
      · rcases List.mem_cons.1 h with rfl | h
        · exact hbyte
        · exact refS_end bl n tl ls N hN hT f _ _ t h
    · split at h
      · rename_i hB
        have h0 : tl ≠ 0 := by
          unfold tailB at hB
          simp only [Bool.and_eq_true, decide_eq_true_eq] at hB
          exact hB.1
        rcases List.mem_cons.1 h with rfl | h
        · exact hT h0
        · exact refS_end bl n tl ls N hN hT f _ _ t h
      · rcases List.mem_cons.1 h with rfl | h
        · exact hbyte
        · exact refS_end bl n tl ls N hN hT f _ _ t h
theorem goAll_ok (l : List UInt8) (size : Int) : ∀ (T : List Tk) (O : List UInt8), (∀ t ∈ T, stepE l.length size t = 0) → O.length + (valsL l size T).length ≤ 16384 → goAll l size T O = (0, O ++ valsL l size T)
  | [], O, _, _ => by simp [goAll, valsL]
  | t :: r, O, h, hs => by
    have h0 := h t List.mem_cons_self
    rw [valsL_cons, List.length_append] at hs
    have hL : stepL l size t = stepV l size t := by unfold stepL; rw [if_pos h0]
    have hg : goStep l size t O = (0, O ++ stepV l size t) := by
      unfold goStep
      rw [if_pos h0, hL, if_neg (by omega)]
    rw [goAll, hg]
    simp only
    rw [if_true, goAll_ok l size r _ (fun x hx => h x (List.mem_cons_of_mem _ hx)) (by rw [List.length_append]; omega), valsL_cons, List.append_assoc]
/-- All that the law PatchBack says. -/
theorem back_facts (l b : List UInt8) (size : Int) (h : Nat) (hh : fitN size = h) (hl : l.length ≤ 400) (hb : b.length ≤ 400) :
    applyE l size (deltaL l h b) = 0 ∧ (applyL l size (deltaL l h b)).length = b.length ∧ needsL l.length size (deltaL l h b) = true ∧ (deltaL l h b).length ≤ 1000 ∧
    (applyL l size (deltaL l h b) = b ∨ clashL (blocksL l size) b = true) := by
  obtain ⟨s1, _, _, s4, s5⟩ := self_facts l b size h hh hl hb
  obtain ⟨f1, f2, f3, f4⟩ := sigOf_facts l size h hh (by omega)
  obtain ⟨a1, a2, a3⟩ := sigOf_all l size h hh
  have hf := fitN_in size
  rw [hh] at hf
  have hend : ∀ t ∈ deltaL l h b, t.from_ + t.many ≤ countN l.length size := by
    unfold deltaL
    obtain ⟨b1, _, _, _⟩ := found_facts (sigOf l h).1 h (sigOf l h).2.1 (sigOf l h).2.2 b f2 hb
    rw [b1]
    unfold joinR
    refine fold_all (fun a t c hm ha ht => merge_end (countN_nn _ _) a t c hm ha ht) _ _ (by simp) (fun x hx => ?_)
    refine refS_end _ h _ _ _ ?_ (fun hz => ?_) _ b 0 x (List.mem_filter.1 hx).1
    · rw [a3]; split <;> omega
    · rw [a3, if_neg hz]; omega
  have hstep : ∀ t ∈ deltaL l h b, stepE l.length size t = 0 := fun t ht => by
    unfold stepE
    rw [if_pos (s5 t ht), if_pos (hend t ht)]
  have hgo := goAll_ok l size (deltaL l h b) [] hstep (by rw [s1]; simp; omega)
  have hL : applyL l size (deltaL l h b) = valsL l size (deltaL l h b) := by
    unfold applyL
    rw [hgo]
    simp
  refine ⟨by unfold applyE; rw [hgo], by rw [hL, s1], ?_, s4, ?_⟩
  · unfold needsL
    rw [List.all_eq_true]
    intro t ht
    rw [hstep t ht]
    decide
  · cases hc : clashL (blocksL l size) b with
    | true => exact .inr rfl
    | false =>
      refine .inl ?_
      rw [hL]
      unfold deltaL
      obtain ⟨b1, _, _, _⟩ := found_facts (sigOf l h).1 h (sigOf l h).2.1 (sigOf l h).2.2 b f2 hb
      rw [b1, vals_join l size _ (refS_right _ h _ _ f3 _ b 0)]
      have hblk : ∀ k : Nat, (k : Int) < countN l.length size → clashX b (blkL l size k) = false := fun k hk => by
        unfold clashL at hc
        have := List.any_eq_false.1 hc (blkL l size k) (List.mem_of_getElem? (blocksL_get l size k (by omega)))
        simpa using this
      have q := vals_back l b size (sigOf l h).1 h (sigOf l h).2.1 (sigOf l h).2.2 (fun k hk => ⟨(a1 k hk).1, (a1 k hk).2, hblk k (by rw [a3]; split <;> omega)⟩)
        (fun hz => ⟨(a2 hz).1, (a2 hz).2, hblk _ (by rw [a3, if_neg hz]; omega)⟩) (by omega) b.length 0 0 (by simp)
      rw [List.drop_zero] at q
      exact q
end Go.Proofs.Ytobgbheodlpclaa
/-
  The reference's Clash.
-/
namespace Go.Proofs.Ytobgbheodlpclaa
open Go.RowKit
set_option maxRecDepth 100000

theorem ext_winW (l : List UInt8) (i n : Nat) : (ofL l).extract i (i + n) = ofL (winW l n i) := by
  apply toL_inj
  unfold toL winW
  rw [Lib.extract_data]
  simp [ofL]
theorem clashL_drop (L : List (List UInt8)) (b : List UInt8) (i : Nat) (x : List UInt8) (h : L[i]? = some x) : clashL (L.drop i) b = (clashX b x || clashL (L.drop (i + 1)) b) := by
  obtain ⟨hlt, e⟩ := List.getElem?_eq_some_iff.1 h
  rw [List.drop_eq_getElem_cons hlt, e]; rfl

theorem sum2_eql (p q r t : Nat) (w : World) : (binOp .eql 28 (.agg #[.int .u64 (p : Nat), .int .u64 (q : Nat)]) (.agg #[.int .u64 (r : Nat), .int .u64 (t : Nat)])).run Try.prog w = .ok (.bool (decide ((p, q) = (r, t)))) w := by
  have u3 := Try.underlying26
  have a3' := Try.isAgg26
  have z3 := Try.sizeOf26
  obtain ⟨B, hB0⟩ : ∃ B, decide ((p, q) = (r, t)) = B := ⟨_, rfl⟩
  have hB := hide hB0
  clear hB0
  have h : (Op.equalIn 10000 28 (.agg #[.int .u64 (p : Nat), .int .u64 (q : Nat)]) (.agg #[.int .u64 (r : Nat), .int .u64 (t : Nat)])).run Try.prog w = .ok B w := by
    rw [show (10000 : Nat) = 9999 + 1 from rfl, Op.equalIn]
    simp only [Sem.run_bind, run_underlying Try.underlying28, Result.andThen_ok]
    cases B
    · have h0 : ¬ (p, q) = (r, t) := by simpa using hB.out
      rw [Prod.mk.injEq] at h0
      clear hB
      by_cases h1 : p = r
      · subst h1
        have h2 : ¬ (q : Int) = (t : Int) := fun e => h0 ⟨rfl, by omega⟩
        clear h0
        go_simp
      · have h2 : ¬ (p : Int) = (r : Int) := by omega
        clear h0 h1
        go_simp
    · have h0 : (p, q) = (r, t) := by simpa using hB.out
      rw [Prod.mk.injEq] at h0
      obtain ⟨rfl, rfl⟩ := h0
      clear hB
      go_simp
  have h9 : ∀ a b : Value, (Op.equalIn Op.maxDepth 28 a b) = Op.equalIn 10000 28 a b := fun a b => rfl
  rw [hB.out]
  clear hB
  simp only [binOp, Op.equal, Sem.run_bind, h9, h, Result.andThen_ok]
  rfl

set_option maxHeartbeats 16000000 in
theorem clash_any (l b : List UInt8) (size : Int) (w : World) (hl : l.length ≤ 1000) (hb : b.length ≤ 1000) :
    Calls Try.prog 63 #[.string (ofL l), .string (ofL b), .int .i64 size] w fun e w' => e = .returned (.bool (clashL (blocksL l size) b)) ∧ Below w.heap.size w w' := by
  have HBl := hide (show Calls Try.prog 17 #[.string (ofL l), .int .i64 size] w fun e w' => ∃ v, e = .returned v ∧ XI w v (blocksL l size) w' from by
    have q := refBlocks_any (ofL l) size w (by rw [ofL_size]; omega)
    rw [toL_ofL] at q
    exact q)
  have hlen := blocksL_len l size
  have hcn := countN_le l.length size
  have hcnn := countN_nn l.length size
  have hx64 : ∀ x ∈ blocksL l size, x.length ≤ 64 := fun x hx => by
    unfold blocksL at hx
    obtain ⟨k, _, rfl⟩ := List.mem_map.1 hx
    exact blkL_len _ _ _
  obtain ⟨V, hV⟩ : ∃ V, V = clashL (blocksL l size) b := ⟨_, rfl⟩
  have HV := hide (show clashL ((blocksL l size).drop 0) b = V by rw [hV]; rfl)
  rw [← hV]
  have hL : (blocksL l size).length ≤ 1000 := by omega
  generalize blocksL l size = L at HBl HV hx64 hL
  have H64 := hide hx64
  have hbs : (ofL b).size = b.length := ofL_size b
  clear hV hlen hcn hcnn hx64
  go_enter Try.func63, Try.ntmps63
  go_wp2_with fail
  refine HBl.out.mono ?_
  rintro e w1 ⟨v, rfl, hI⟩
  obtain ⟨D, d, rfl⟩ := ownsRow_slice hI.own
  have HT := hide (RdTx.own hI.own)
  have HB1 := hide hI.below
  clear hI HBl
  go_wp2_with fail
  go_loopg [8] L.length (fun gk iv wr => ∃ i : Nat, iv = .int .i64 i ∧ i + gk = L.length ∧ Hid (clashL (L.drop i) b = V) ∧ Hid (Below w1.heap.size w1 wr))
  case atStart => exact ⟨0, rfl, by omega, HV, hide (Below.refl _ _)⟩
  case round =>
    obtain ⟨i, rfl, hig, HQ, HW⟩ := hrel
    clear HV
    cases gk with
    | zero =>
      obtain rfl : i = L.length := by omega
      have HE := hide (show V = false by rw [← HQ.out, List.drop_length]; rfl)
      have HF := hide (HB1.out.trans (HW.out.mono HB1.out.size))
      clear HQ
      go_wp2_with fail
      exact bodyPost_ret (results_tmp rfl _ _ _) rfl ⟨by rw [HE.out]; rfl, HF.out⟩
    | succ g0 =>
      have hii : (i : Int) < L.length := by omega
      have hi0 : (0 : Int) ≤ (i : Int) := by omega
      obtain ⟨x, hx⟩ : ∃ x, L[i]? = some x := ⟨_, List.getElem?_eq_getElem (by omega)⟩
      have hiw : IntKind.i64.wrap ((i : Int) + 1) = ((i + 1 : Nat) : Int) := by rw [IntWalk.i64_in _ (by omega)]; rfl
      obtain ⟨ad, rfl, hlt, hxc⟩ := HT.out i x hx
      have hxl := H64.out x (List.mem_of_getElem? hx)
      have hd := HQ.out
      rw [clashL_drop L b i x hx] at hd
      have HD := hide (show (clashF x b (b.length + 1 - x.length) 0 || clashL (L.drop (i + 1)) b) = V from hd)
      have HXc := hide (fun (W : World) (q : Below w1.heap.size w1 W) => (q.cell (p := ad.add i) (by rw [add_block]; exact hlt)).trans hxc)
      have hxs : (ofL x).size = x.length := ofL_size x
      clear hd hx hxc HQ
      obtain ⟨Wo, rfl⟩ : ∃ Wo, Wo = wr := ⟨_, rfl⟩
      have HW0 := HW
      have c0 := HXc.out _ HW.out
      go_wp2_with fail
      go_loopg [9] (b.length + 1 - x.length) (fun gj pv wi => ∃ p : Nat, pv = .int .i64 p ∧ p + gj = b.length + 1 - x.length ∧ Hid ((clashF x b gj p || clashL (L.drop (i + 1)) b) = V) ∧ Hid (Below w1.heap.size w1 wi))
      case atStart => exact ⟨0, rfl, by omega, HD, HW0⟩
      case round =>
        obtain ⟨p, rfl, hpg, HQ, HWi⟩ := hrel
        clear HD HW0 HW c0
        have c1 := HXc.out _ HWi.out
        cases gk with
        | zero =>
          have hno : ¬ (p : Int) ≤ (b.length : Int) - x.length := by omega
          have HQ2 := hide (show clashL (L.drop (i + 1)) b = V from by have := HQ.out; simpa [clashF] using this)
          clear HQ
          go_wp2_with fail
          go_roundg g0
          case rel => exact ⟨i + 1, rfl, by omega, HQ2, HWi⟩
          case measure => omega
        | succ g1 =>
          have hyes : (p : Int) ≤ (b.length : Int) - x.length := by omega
          have hstep : clashF x b (g1 + 1) p = (clashW x (winW b x.length p) || clashF x b g1 (p + 1)) := rfl
          have hq := HQ.out
          rw [hstep] at hq
          have hpw : IntKind.i64.wrap ((p : Int) + 1) = ((p + 1 : Nat) : Int) := by rw [IntWalk.i64_in _ (by omega)]; rfl
          have hyl : (winW b x.length p).length ≤ 64 := by unfold winW; rw [List.length_take]; omega
          have HQ3 := hide hq
          have HWn := hide (ext_winW b p x.length)
          clear hstep hq HQ
          go_upto_region 9 with fail
          rw [HWn.out]
          clear HWn
          generalize winW b x.length p = y at HQ3 hyl ⊢
          by_cases hyx : y = x
          · subst hyx
            have HQ4 := hide (show (clashF y b g1 (p + 1) || clashL (L.drop (i + 1)) b) = V from by have h := HQ3.out; unfold clashW at h; simpa using h)
            clear HQ3
            go_quiet (fail)
            rename_i nq
            go_wp2_with fail
            go_roundg g1
            case rel => exact ⟨p + 1, rfl, by omega, HQ4, hide (below_drewN HWi.out nq)⟩
            case measure => omega
          · have hne : ((ofL y).toList == (ofL x).toList) = false := by
              rw [beq_eq_false_iff_ne]
              intro e
              rw [toListT, toListT] at e
              exact hyx e
            have hcw : clashW x y = decide (sumL y = sumL x) := by unfold clashW; simp [hyx]
            have HQ4 := hide HQ3.out
            rw [hcw] at HQ4
            obtain ⟨sg, hsg⟩ : ∃ sg : ByteArray → Nat × Nat, sg = fun s => sumL (toL s) := ⟨_, rfl⟩
            have HOf := hide (fun (s : ByteArray) (hs : s.size ≤ 1000) (W : World) => (show Calls Try.prog 64 #[.string s] W fun e w' => e = .returned (.agg #[.int .u64 ((sg s).1 : Nat), .int .u64 ((sg s).2 : Nat)]) ∧ Below W.heap.size W w' from by
              have q := refOf_any (toL s) W (by show s.data.toList.length ≤ _; simpa using Nat.le_trans hs (by decide))
              rw [show ofL (toL s) = s from toL_inj rfl] at q
              rw [hsg]
              exact q))
            have heq := sum2_eql (sg (ofL y)).1 (sg (ofL y)).2 (sg (ofL x)).1 (sg (ofL x)).2
            have hsy : sumL y = ((sg (ofL y)).1, (sg (ofL y)).2) := by rw [hsg]; rfl
            have hsx : sumL x = ((sg (ofL x)).1, (sg (ofL x)).2) := by rw [hsg]; rfl
            rw [hsy, hsx] at HQ4
            have hys : (ofL y).size ≤ 1000 := by rw [ofL_size]; omega
            have hxs2 : (ofL x).size ≤ 1000 := by omega
            obtain ⟨BB, hBB⟩ : ∃ BB, BB = decide (((sg (ofL y)).1, (sg (ofL y)).2) = ((sg (ofL x)).1, (sg (ofL x)).2)) := ⟨_, rfl⟩
            rw [← hBB] at heq HQ4
            have HSB := hide (fun (W : World) (q : Below wr.heap.size wr W) => (⟨q, HXc.out W (HWi.out.trans (q.mono HWi.out.size))⟩ : Below wr.heap.size wr W ∧ W.cell? (ad.add i) = some (.string (ofL x))))
            have HTr := hide (fun (W W2 : World) (q1 : Below wr.heap.size wr W) (q2 : Below W.heap.size W W2) => q1.trans (q2.mono q1.size))
            have hdd := HSB.out _ (Below.refl wr.heap.size wr).drew
            clear hsy hsx hBB hsg hcw HQ3 hyx c1
            go_region_held (fun W => Below wr.heap.size wr W ∧ W.cell? (ad.add i) = some (.string (ofL x)))
              (first
                | exact HSB.out _ hbk2
                | exact hdd)
              (first
                | (go_at_call 64; refine (HOf.out _ (by assumption) _).mono ?_; rintro en wk ⟨rfl, hbk⟩; have hbk2 := HTr.out _ _ (And.left (by assumption)) hbk))
            all_goals
              rename_i hSz
              have HW6 := hide (HWi.out.trans (hSz.1.mono HWi.out.size))
              clear hSz hdd HSB HTr HOf heq
              cases BB with
              | true =>
                have HE := hide (show V = true from by rw [← HQ4.out]; rfl)
                have HF := hide (HB1.out.trans (HW6.out.mono HB1.out.size))
                clear HQ4
                go_wp2_with fail
                exact bodyPost_ret (results_tmp rfl _ _ _) rfl ⟨by rw [HE.out]; rfl, HF.out⟩
              | false =>
                have HQ5 := hide (show (clashF x b g1 (p + 1) || clashL (L.drop (i + 1)) b) = V from by rw [← HQ4.out, Bool.false_or])
                clear HQ4
                go_wp2_with fail
                go_roundg g1
                case rel => exact ⟨p + 1, rfl, by omega, HQ5, HW6⟩
                case measure => omega
end Go.Proofs.Ytobgbheodlpclaa
/-
  The law PatchBack: its walk.
-/
namespace Go.Proofs.Ytobgbheodlpclaa
open Go.RowKit Go.Shelf
set_option maxRecDepth 100000

set_option maxHeartbeats 32000000 in
theorem back_law (A : Option Addr) (l : List UInt8) (c : Nat) (C : Option Addr) (b : List UInt8) (k : Nat) (size : Int) (w : World) (hR : RdB w w.heap.size A l) (hc : Caps A l.length c) (hC : RdB w w.heap.size C b) (hk : Caps C b.length k) (_ : -9223372036854775808 ≤ size ∧ size ≤ 9223372036854775807) :
    Calls Try.prog 13 #[.slice A l.length c, .slice C b.length k, .int .i64 size] w fun e w' => e = .returned (.bool true) ∧ Below w.heap.size w w' := by
  by_cases h1 : (120 : Int) < l.length
  · clear hR hc hC hk
    go_enter Try.func13, Try.ntmps13
    go_wp2_with fail
    refine (ptAwake_any w).mono ?_
    rintro e w2 ⟨rfl, hb⟩
    go_wp2_with fail
    exact bodyPost_ret (results_tmp rfl _ _ _) rfl ⟨rfl, hb⟩
  by_cases h2 : (120 : Int) < b.length
  · clear hR hc hC hk
    go_enter Try.func13, Try.ntmps13
    go_wp2_with fail
    refine (ptAwake_any w).mono ?_
    rintro e w2 ⟨rfl, hb⟩
    go_wp2_with fail
    exact bodyPost_ret (results_tmp rfl _ _ _) rfl ⟨rfl, hb⟩
  have hl : l.length ≤ 120 := by omega
  have hbl : b.length ≤ 120 := by omega
  have hf := fitN_in size
  obtain ⟨h, hh⟩ : ∃ h : Nat, fitN size = h := ⟨(fitN size).toNat, by omega⟩
  obtain ⟨s1, s2, s3, s4, s5⟩ := back_facts l b size h hh (by omega) (by omega)
  have HDe := hide (delta_any A l c size h C b k w hR hc (by omega) hC hk (by omega) hh)
  obtain ⟨F, hF⟩ : ∃ F, F = deltaL l h b := ⟨_, rfl⟩
  rw [← hF] at HDe s1 s2 s3 s4 s5
  have HAp := hide (fun (W : World) (q : Below w.heap.size w W) (D : Option Addr) (d : Nat) (q2 : RdT W W.heap.size D F) => apply_any A l c size D F d W (hR.step q) hc (by omega) q2 (by omega))
  have HNd := hide (fun (W : World) (D : Option Addr) (d : Nat) (q2 : RdT W W.heap.size D F) => needs_any l.length size D F d W (by omega) q2 (by omega))
  rw [s3] at HNd
  obtain ⟨aL, haL⟩ : ∃ aL, aL = applyL l size F := ⟨_, rfl⟩
  rw [← haL, s1] at HAp
  rw [← haL] at s2 s5
  unfold Stepped at HAp
  have HCl := hide (fun W => clash_any l b size W (by omega) (by omega))
  have HCvb := hide (fun (W : World) (q : Below w.heap.size w W) => conv_any (hC.step q) k)
  have HCvl := hide (fun (W : World) (q : Below w.heap.size w W) => conv_any (hR.step q) c)
  have HS2 := hide s2
  have HS5 := hide s5
  clear hF haL s1 s2 s3 s5 hh hR hc hC hk
  go_enter Try.func13, Try.ntmps13
  go_wp2_with fail
  refine HDe.out.mono ?_
  rintro e w1 ⟨v, rfl, hI⟩
  obtain ⟨D, d, rfl⟩ := ownsRow_slice hI.own
  have HT1 := hide (RdT.own hI.own)
  have HB1 := hide hI.below
  clear hI HDe
  go_wp2_with fail
  refine (HAp.out _ HB1.out D d HT1.out).mono ?_
  rintro e w2 ⟨E, f, rfl, _, hER, hb2⟩
  have HB2 := hide (HB1.out.trans (hb2.mono HB1.out.size))
  have HT2 := hide (HT1.out.step hb2)
  have HCa := hide (fun (W : World) (q : Below w2.heap.size w2 W) => conv_any (hER.step q) f)
  rw [HS2.out] at HCa ⊢
  clear hER hb2 HAp HT1 HB1
  go_wp2_with fail
  refine (HNd.out _ D d HT2.out).mono ?_
  rintro e w3 ⟨rfl, hb3⟩
  have HB3 := hide (HB2.out.trans (hb3.mono HB2.out.size))
  have HB23 := hide hb3
  clear hb3 HNd HT2
  have HAw := hide (ptAwake_any w3)
  go_wp2_with fail
  refine HAw.out.mono ?_
  rintro e w4 ⟨rfl, hb4⟩
  have hB24 := HB23.out.trans (hb4.mono HB23.out.size)
  have HB4 := hide (HB3.out.trans (hb4.mono HB3.out.size))
  have hca := HCa.out _ hB24
  have hcb := HCvb.out _ HB4.out
  have hcl := HCvl.out _ HB4.out
  clear hb4 hB24 HAw HCa HCvb HCvl HB23
  by_cases hab : aL = b
  · subst hab
    clear HS5 HS2
    go_wp2_with fail
    exact bodyPost_ret (results_tmp rfl _ _ _) rfl ⟨rfl, HB4.out⟩
  · have hcc := HS5.out.resolve_left hab
    rw [hcc] at HCl
    have hne : ((ofL aL).toList == (ofL b).toList) = false := by
      rw [beq_eq_false_iff_ne]
      intro e
      rw [toListT, toListT] at e
      exact hab e
    clear HS5 HS2 hab hcc
    go_wp2_with fail
    refine (HCl.out _).mono ?_
    rintro e w5 ⟨rfl, hb5⟩
    have HB5 := hide (HB4.out.trans (hb5.mono HB4.out.size))
    clear hb5
    go_wp2_with fail
    exact bodyPost_ret (results_tmp rfl _ _ _) rfl ⟨rfl, HB5.out⟩
end Go.Proofs.Ytobgbheodlpclaa
