/-
  The reference's Cmp: two paths' names, one by one.
-/
import Derived.Test.YthmiffjhchhljaaDoorRefSame
namespace Go.Proofs.YthmiffjhchhljaaDoor
open Go.RowKit
set_option maxRecDepth 100000

/-- Nothing but drawing. -/
def Drew (w w' : World) : Prop := ∃ n, w' = w.drewN n
theorem Drew.refl (w : World) : Drew w w := ⟨0, rfl⟩
theorem Drew.step {w w' : World} (h : Drew w w') (n : Nat) : Drew w (w'.drewN n) := by
  obtain ⟨m, rfl⟩ := h
  exact ⟨m + n, World.drewN_drewN _ _ _⟩
theorem text_out {p q : List UInt8} : textL p q = -1 ∨ textL p q = 0 ∨ textL p q = 1 := by
  induction p generalizing q with
  | nil => cases q <;> simp [textL]
  | cons a p ih =>
    cases q with
    | nil => simp [textL]
    | cons b q =>
      by_cases h : a = b
      · simp only [textL, h, if_true]; exact ih
      · simp only [textL, h, if_false]
        unfold signZ
        split
        · simp
        · split <;> simp

set_option maxHeartbeats 2000000 in
theorem text_quiet (p q : ByteArray) (w : World) (hp : (p.size : Int) ≤ 9223372036854775800) :
    Calls Tryd.prog 64 #[.string p, .string q] w fun e w' => e = .returned (.int .i64 (textL p.data.toList q.data.toList)) ∧ Drew w w' := by
  go_enter Tryd.func64, Tryd.ntmps64
  go_wp2_with fail
  go_loopw [5] (fun i wr => ∃ k : Nat, k ≤ p.size ∧ k ≤ q.size ∧ i = .int .i64 k ∧ Hid (p.data.toList.take k = q.data.toList.take k) ∧ Drew w wr) (fun i _ => p.size - (intOf i).toNat)
  case atStart => exact ⟨0, Nat.zero_le _, Nat.zero_le _, rfl, hide (by simp), Drew.refl _⟩
  case round =>
    obtain ⟨k, hk, hk', rfl, HA, hB⟩ := hrel
    by_cases h1 : (k : Int) < p.size
    · by_cases h2 : (k : Int) < q.size
      · have n1 : k < p.size := by omega
        have n2 : k < q.size := by omega
        by_cases he : p[k] = q[k]
        · have hs := hide (take_snoc_eq k p q HA.out n1 n2 he)
          have q1 : ¬ (p[k].toNat : Int) < q[k].toNat := by rw [he]; omega
          have q2 : ¬ (q[k].toNat : Int) < p[k].toNat := by rw [he]; omega
          clear he
          go_wp2_with fail
          go_quiet (fail)
          go_wp2_with fail
          have hB2 := Drew.step hB nq
          generalize wr.drewN nq = wq at hB2 ⊢
          go_quiet (fail)
          go_wp2_with fail
          go_roundw
          case rel => exact ⟨k + 1, by omega, by omega, rfl, hs, Drew.step hB2 _⟩
          case measure => simp [intOf]; omega
        · have hc := textL_at k p q HA.out n1 n2 he
          by_cases q1 : (p[k].toNat : Int) < q[k].toNat
          · have HC := hide (show textL p.data.toList q.data.toList = -1 by rw [hc]; unfold signZ; rw [if_pos (by omega)])
            clear he hc
            go_wp2_with fail
            go_quiet (fail)
            go_wp2_with fail
            refine bodyPost_ret (results_tmp rfl _ _ _) rfl ⟨by rw [HC.out]; rfl, Drew.step hB _⟩
          · have q0 : ¬ (p[k].toNat : Int) = q[k].toNat := fun e => he (UInt8.toNat_inj.1 (by omega))
            have q2 : (q[k].toNat : Int) < p[k].toNat := by omega
            have HC := hide (show textL p.data.toList q.data.toList = 1 by rw [hc]; unfold signZ; rw [if_neg (by omega), if_neg (by omega)])
            clear he hc q0
            go_wp2_with fail
            go_quiet (fail)
            go_wp2_with fail
            have hB2 := Drew.step hB nq
            generalize wr.drewN nq = wq at hB2 ⊢
            go_quiet (fail)
            go_wp2_with fail
            refine bodyPost_ret (results_tmp rfl _ _ _) rfl ⟨by rw [HC.out]; rfl, Drew.step hB2 _⟩
      · have hkq : k = q.size := by omega
        have hc := textL_end p q (by rw [show min p.size q.size = k by omega]; exact HA.out)
        have HC := hide (show textL p.data.toList q.data.toList = 1 by rw [hc]; unfold signZ; rw [if_neg (by omega), if_neg (by omega)])
        have g1 : ¬ (p.size : Int) < q.size := by omega
        have g2 : (q.size : Int) < p.size := by omega
        clear hc
        go_wp2_with fail
        refine bodyPost_ret (results_tmp rfl _ _ _) rfl ⟨by rw [HC.out]; rfl, hB⟩
    · have hkp : k = p.size := by omega
      have hc := textL_end p q (by rw [show min p.size q.size = k by omega]; exact HA.out)
      by_cases g1 : (p.size : Int) < q.size
      · have HC := hide (show textL p.data.toList q.data.toList = -1 by rw [hc]; unfold signZ; rw [if_pos (by omega)])
        clear hc hkp
        go_wp2_with fail
        refine bodyPost_ret (results_tmp rfl _ _ _) rfl ⟨by rw [HC.out]; rfl, hB⟩
      · have HC := hide (show textL p.data.toList q.data.toList = 0 by rw [hc]; unfold signZ; rw [if_neg (by omega), if_pos (by omega)])
        have g2 : ¬ (q.size : Int) < p.size := by omega
        clear hc hkp
        go_wp2_with fail
        refine bodyPost_ret (results_tmp rfl _ _ _) rfl ⟨by rw [HC.out]; rfl, hB⟩

theorem cmpN_same : ∀ (k : Nat) (p q : List (List UInt8)), (∀ i, i < k → ∀ a b, p[i]? = some a → q[i]? = some b → textL a b = 0) → k ≤ p.length → k ≤ q.length → cmpN p q = cmpN (p.drop k) (q.drop k)
  | 0, p, q, _, _, _ => by simp
  | k + 1, a :: p, b :: q, h, h1, h2 => by
    have h0 := h 0 (by omega) a b rfl rfl
    rw [cmpN_eq _ _ h0, List.drop_succ_cons, List.drop_succ_cons]
    exact cmpN_same k p q (fun i hi x y hx hy => h (i + 1) (by omega) x y (by simpa using hx) (by simpa using hy)) (by simpa using h1) (by simpa using h2)
  | k + 1, [], _, _, h1, _ => by simp at h1
  | k + 1, _ :: _, [], _, _, h2 => by simp at h2
/-- The first k names are the same. -/
def Sames (p q : List (List UInt8)) (k : Nat) : Prop := ∀ i, i < k → ∀ a b, p[i]? = some a → q[i]? = some b → textL a b = 0
theorem Sames.zero (p q : List (List UInt8)) : Sames p q 0 := fun i hi => by omega
theorem Sames.succ {p q : List (List UInt8)} {k : Nat} (h : Sames p q k) {a b : List UInt8} (ha : p[k]? = some a) (hb : q[k]? = some b) (e : textL a b = 0) : Sames p q (k + 1) := fun i hi x y hx hy => by
  by_cases hk : i < k
  · exact h i hk x y hx hy
  · obtain rfl : i = k := by omega
    rw [ha] at hx; rw [hb] at hy
    cases hx; cases hy
    exact e
theorem Sames.at_ {p q : List (List UInt8)} {k : Nat} (h : Sames p q k) {a b : List UInt8} (ha : p[k]? = some a) (hb : q[k]? = some b) (e : textL a b ≠ 0) : cmpN p q = textL a b := by
  obtain ⟨l1, e1⟩ := List.getElem?_eq_some_iff.1 ha
  obtain ⟨l2, e2⟩ := List.getElem?_eq_some_iff.1 hb
  rw [cmpN_same k p q h (by omega) (by omega), List.drop_eq_getElem_cons l1, List.drop_eq_getElem_cons l2, e1, e2, cmpN_to _ _ rfl e]
theorem Sames.end_ {p q : List (List UInt8)} {k : Nat} (h : Sames p q k) (hk : k = min p.length q.length) : cmpN p q = signZ ((p.length : Int) - q.length) := by
  rw [cmpN_same k p q h (by omega) (by omega)]
  by_cases hl : p.length ≤ q.length
  · rw [List.drop_of_length_le (l := p) (by omega)]
    cases hd : q.drop k with
    | nil =>
      have := congrArg List.length hd
      simp at this
      rw [show (p.length : Int) - q.length = 0 by omega]; rfl
    | cons c r =>
      have := congrArg List.length hd
      simp at this
      unfold signZ
      rw [if_pos (by omega)]; rfl
  · rw [List.drop_of_length_le (l := q) (by omega)]
    cases hd : p.drop k with
    | nil =>
      have := congrArg List.length hd
      simp at this
      omega
    | cons c r =>
      unfold signZ
      rw [if_neg (by omega), if_neg (by omega)]; rfl

set_option maxHeartbeats 2000000 in
theorem refCmp_any (p q : ByteArray) (w : World) (hp : (p.size : Int) ≤ 1000000) (hq : (q.size : Int) ≤ 1000000) :
    Calls Tryd.prog 35 #[.string p, .string q] w fun e w' => e = .returned (.int .i64 (cmpL (toL p) (toL q))) ∧ Below w.heap.size w w' := by
  go_enter Tryd.func35, Tryd.ntmps35
  go_wp2_with fail
  refine (refCut_any p w hp).mono ?_
  rintro e w1 ⟨A, c, cs, rfl, hcs, _, hR1, hB1⟩
  go_wp2_with fail
  refine (refCut_any q w1 hq).mono ?_
  rintro e w2 ⟨B, d, ds, rfl, hds, _, hS, hB2⟩
  have hB := hB1.trans (hB2.mono hB1.size)
  have hR := (hR1.below hB2 (Nat.le_refl _)).mono hB2.size
  have HM := hide (show cmpL (toL p) (toL q) = cmpN (cs.map toL) (ds.map toL) by rw [hcs, hds, cmpN_cut])
  have hn : (cs.length : Int) ≤ 1000001 := by
    have := cut_count (toL p)
    rw [← hcs] at this
    simp [toL] at this
    omega
  have hm : (ds.length : Int) ≤ 1000001 := by
    have := cut_count (toL q)
    rw [← hds] at this
    simp [toL] at this
    omega
  have HP : ∀ (k : Nat) (x : ByteArray), cs[k]? = some x → (x.size : Int) ≤ 9223372036854775800 := fun k x hx => by have := piece_size hcs hx; simp [toL] at this; omega
  have HQ := hide HP
  clear HP hcs hds hB1 hB2 hR1
  go_wp2_with fail
  go_loopw [7] (fun i wr => ∃ k : Nat, k ≤ cs.length ∧ k ≤ ds.length ∧ i = .int .i64 k ∧ Hid (Sames (cs.map toL) (ds.map toL) k) ∧ Drew w2 wr) (fun i _ => cs.length - (intOf i).toNat)
  case atStart => exact ⟨0, Nat.zero_le _, Nat.zero_le _, rfl, hide (Sames.zero _ _), Drew.refl _⟩
  case round =>
    obtain ⟨k, hk, hk', rfl, HA, hD⟩ := hrel
    have hBr : Below w.heap.size w wr := by obtain ⟨n, rfl⟩ := hD; exact below_drewN hB n
    have hRr : Rd wr w2.heap.size A cs := by obtain ⟨n, rfl⟩ := hD; exact hR
    have hSr : Rd wr w2.heap.size B ds := by obtain ⟨n, rfl⟩ := hD; exact hS
    clear hR hS hB
    by_cases l1 : (k : Int) < cs.length
    · by_cases l2 : (k : Int) < ds.length
      · have n1 : k < cs.length := by omega
        have n2 : k < ds.length := by omega
        have g1 := List.getElem?_eq_getElem n1
        have g2 := List.getElem?_eq_getElem n2
        obtain ⟨ad, rfl, _, hc⟩ := hRr k _ g1
        obtain ⟨bd, rfl, _, hd⟩ := hSr k _ g2
        have G1 := hide (show (cs.map toL)[k]? = some (toL cs[k]) by rw [List.getElem?_map, g1]; rfl)
        have G2 := hide (show (ds.map toL)[k]? = some (toL ds[k]) by rw [List.getElem?_map, g2]; rfl)
        have hz := HQ.out k _ g1
        clear g1 g2
        by_cases ht : textL cs[k].data.toList ds[k].data.toList = 0
        · have HS := hide (HA.out.succ G1.out G2.out ht)
          go_wp2_with fail
          go_quiet ((go_at_call 64; exact Calls.quiet_of (text_quiet _ _ _ hz)))
          have hD2 := hD.step nq
          clear hD hc hd hBr hRr hSr
          generalize wr.drewN nq = wq at hD2 ⊢
          go_wp2_with fail
          go_roundw
          case rel => exact ⟨k + 1, by omega, by omega, rfl, HS, hD2⟩
          case measure => simp [intOf]; omega
        · have HE := hide (show cmpL (toL p) (toL q) = textL cs[k].data.toList ds[k].data.toList by rw [HM.out]; exact HA.out.at_ G1.out G2.out ht)
          have hne : (textL cs[k].data.toList ds[k].data.toList != 0) = true := by simpa [bne_iff_ne] using ht
          go_wp2_with fail
          go_quiet ((go_at_call 64; exact Calls.quiet_of (text_quiet _ _ _ hz)))
          go_wp2_with fail
          refine bodyPost_ret (results_tmp rfl _ _ _) rfl ⟨by rw [HE.out]; rfl, below_drewN hBr _⟩
      · have hE := HA.out.end_ (by simp; omega)
        have HE := hide (show cmpL (toL p) (toL q) = 1 by
          rw [HM.out, hE]; simp only [List.length_map]; unfold signZ; rw [if_neg (by omega), if_neg (by omega)])
        have g1 : ¬ (cs.length : Int) < ds.length := by omega
        have g2 : (ds.length : Int) < cs.length := by omega
        clear hE
        go_wp2_with fail
        refine bodyPost_ret (results_tmp rfl _ _ _) rfl ⟨by rw [HE.out]; rfl, hBr⟩
    · have hE := HA.out.end_ (by simp; omega)
      by_cases g1 : (cs.length : Int) < ds.length
      · have HE := hide (show cmpL (toL p) (toL q) = -1 by
          rw [HM.out, hE]; simp only [List.length_map]; unfold signZ; rw [if_pos (by omega)])
        clear hE
        go_wp2_with fail
        refine bodyPost_ret (results_tmp rfl _ _ _) rfl ⟨by rw [HE.out]; rfl, hBr⟩
      · have HE := hide (show cmpL (toL p) (toL q) = 0 by
          rw [HM.out, hE]; simp only [List.length_map]; unfold signZ; rw [if_neg (by omega), if_pos (by omega)])
        have g2 : ¬ (ds.length : Int) < cs.length := by omega
        clear hE
        go_wp2_with fail
        refine bodyPost_ret (results_tmp rfl _ _ _) rfl ⟨by rw [HE.out]; rfl, hBr⟩
end Go.Proofs.YthmiffjhchhljaaDoor
