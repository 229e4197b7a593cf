/-
  The reference's Rebase.
-/
import Derived.Test.YtbklgijndjpgoaaDoorMkPathsC
import Derived.Test.YtbklgijndjpgoaaDoorMkBase
import Derived.Laws.AppendOwnNone
namespace Go.Proofs.YtbklgijndjpgoaaDoor
open Go.RowKit
set_option maxRecDepth 100000

/-- append onto a row of the call's own of a slice that reads as texts, nil or not. -/
theorem wpList_append_texts {P : Program} {w : World} {ops : Array Oper} {rest : List Oper} {o : Oper} {a : Act} {Q : Exit → Act → World → Prop} (hgd : o.guard = none) (s x : Operand) (t : TypeId)
    (ho : o.op = .call { callee := .builtin .append, args := #[s, x], argTypes := #[t, t] })
    (base : Nat) (e : TypeId) (i : TypeInfo) (ht : P.underlying t = some (.slice e)) (hi : P.info? e = some i) (hz : i.zero = some (.string ⟨#[]⟩)) (hsize : i.size = 1) (hby : i.bytes = 16)
    (v : Value) (n : Nat) (xs : List Value) (hs : a.eval s = v) (hown : w.ownsRow base e 1 v n xs)
    (A : Option Addr) (m c B : Nat) (cs : List ByteArray) (hx : a.eval x = .slice A m c) (hm : m = cs.length) (hr : Rd w B A cs)
    (h63 : n + m ≤ maxLen) (hbytes : (n + m) * 16 ≤ 140737488355328) (hbase : base ≤ w.heap.size)
    (h : ∀ v' w', w'.ownsRow base e 1 v' (n + m) (xs ++ cs.map Value.string) → w.grownBy w' v.ownBlock → wpList P ops Q rest (a.put o.dst v') w') : wpList P ops Q (o :: rest) a w := by
  rcases A with _ | ad
  · have h0 : cs = [] := by
      cases cs with
      | nil => rfl
      | cons y r => obtain ⟨ad, e', _⟩ := hr 0 y rfl; cases e'
    subst h0
    obtain rfl : m = 0 := hm
    refine wpList_plain hgd fun K hK => ?_
    have hrun := run_append_nil (P := P) (w := w) base t o.type e i 1 ht hi v n xs hown c
    unfold Oper.wp
    simp [execOp, ho, resolve, invoke, builtin, hs, hx, hrun, Result.andThen]
    exact hK _ _ (h v w (by simpa using hown) (World.grownBy.refl w _))
  · refine wpList_append_own w hgd s x t ho base e i (.string ⟨#[]⟩) 1 16 ht hi hz hsize hby rfl (by decide) v n xs hs hown ad m c (cs.map Value.string) hx (by simp [hm]) ?_ ?_ h63 hbytes hbase (fun v' w' h1 h2 _ => h v' w' h1 h2)
    · intro j u hu
      rw [List.getElem?_map, Option.map_eq_some_iff] at hu
      obtain ⟨y, hy, rfl⟩ := hu
      obtain ⟨ad', e', _, hc⟩ := hr j y hy
      cases e'
      exact hc
    · intro u hu
      obtain ⟨y, _, rfl⟩ := List.mem_map.1 hu
      rfl
/-- What is left of texts behind the first k. -/
theorem Rd.drop {w : World} {B c k : Nat} {A : Option Addr} {l : List ByteArray} (h : Rd w B A l) (hc : l.length ≤ c) : Rd w B (if c = k then A else A.map (·.add k)) (l.drop k) := fun j x hx => by
  rw [List.getElem?_drop] at hx
  have hlt := (List.getElem?_eq_some_iff.1 hx).1
  obtain ⟨ad, rfl, hb, hcell⟩ := h (k + j) x hx
  rw [if_neg (by omega)]
  refine ⟨ad.add k, rfl, by rw [add_block]; exact hb, ?_⟩
  have e : (ad.add k).add j = ad.add (k + j) := by
    unfold Addr.add
    by_cases hi : k = 0 <;> by_cases hj : j = 0 <;> simp [hi, hj, Nat.add_assoc]
  rw [e]; exact hcell

theorem right_len {cs : List ByteArray} {p : List UInt8} (h : cs.map toL = cutL p) (hr : rightL p = true) : (cs.length : Int) ≤ 16 := by
  rw [right_cut, Bool.and_eq_true, decide_eq_true_eq, ← h, List.length_map] at hr
  omega

set_option maxHeartbeats 2000000 in
theorem refRebase_any (p a b : ByteArray) (w : World) (hp : (p.size : Int) ≤ 1000000) (ha : (a.size : Int) ≤ 1000000) (hb : (b.size : Int) ≤ 1000000) :
    Calls Tryd.prog 37 #[.string p, .string a, .string b] w fun e w' => e = .returned (.tuple #[.string (movedV p a b), .bool (moveOk p a b)]) ∧ Below w.heap.size w w' := by
  obtain ⟨i0, hi, hz0, hz1, hz2⟩ := info_parts info_string
  go_enter Tryd.func37, Tryd.ntmps37
  go_wp2_with fail
  refine (refWithin_any p a w hp ha).mono ?_
  rintro e w1 ⟨rfl, hB1⟩
  have HM := hide (moveOk_cut letter_slash p a b)
  cases hw : withinB (toL p) (toL a) with
  | false =>
    have HN := hide (show moveOk p a b = false by rw [HM.out, hw]; rfl)
    go_wp2_with fail
    refine bodyPost_ret (results_tmp2 rfl _ _ _) rfl ⟨by unfold movedV; rw [HN.out]; rfl, hB1⟩
  | true =>
    have HW := hide hw
    clear hw
    go_wp2_with fail
    refine (refRight_any b w1 hb).mono ?_
    rintro e w2 ⟨rfl, hB2'⟩
    have hB2 := hB1.trans (hB2'.mono hB1.size)
    clear hB1 hB2'
    cases hr : rightL (toL b) with
    | false =>
      have HN := hide (show moveOk p a b = false by rw [HM.out, hr, Bool.and_false]; rfl)
      go_wp2_with fail
      refine bodyPost_ret (results_tmp2 rfl _ _ _) rfl ⟨by unfold movedV; rw [HN.out]; rfl, hB2⟩
    | true =>
      have HR := hide hr
      clear hr
      go_wp2_with fail
      have hO2 : (w2.alloc (.cells #[] 9)).ownsRow w.heap.size 9 1 (.slice (some ⟨w2.heap.size, 0, none⟩) 0 0) 0 [] := World.ownsRow_lit w2 #[] 0 hB2.size (by decide) rfl
      refine (refCut_any b _ hb).mono ?_
      rintro e w3 ⟨B, c, cs, rfl, hcs, hcap, hR3, hB3⟩
      have hO3 := own_below hO2 hB3
      have hB3w := (hB2.alloc hB2.size _).trans (hB3.mono (by have := hB2.size; simp; omega))
      have nb := right_len hcs HR.out
      have HC := hide hcs
      clear hcs hB3 hO2 hB2
      go_wp2_with (at_builtin; refine wpList_append_texts rfl _ _ 59 rfl w.heap.size 9 i0 Tryd.underlying59 hi hz0 hz1 hz2 _ 0 [] rfl hO3 B _ c w3.heap.size cs rfl rfl hR3 (by unfold maxLen; omega) (by omega) hB3w.size ?_)
      intro v4 w4 hO4 hg4
      have hB4 := hB3w.grown hg4 hB3w.size (fun r e => (hO3.lt r e).1)
      clear hB3w hO3 hg4 hR3
      go_wp2_with fail
      refine (refCut_any p _ hp).mono ?_
      rintro e w5 ⟨P, pc, ps, rfl, hps, hpcap, hR5, hB5⟩
      have hO5 := own_below hO4 hB5
      have hB5w := hB4.trans (hB5.mono hB4.size)
      have np := right_len hps ((withinB_iff _ _).1 HW.out).1
      have HP := hide hps
      clear hps hB5 hO4 hB4
      go_wp2_with fail
      refine (refCut_any a _ ha).mono ?_
      rintro e w6 ⟨A, ac, qs, rfl, has, hacap, _, hB6⟩
      have hO6 := own_below hO5 hB6
      have hR6 := hR5.below hB6 (Nat.le_refl _)
      have hB6w := hB5w.trans (hB6.mono hB5w.size)
      have na : (qs.length : Int) ≤ ps.length := by
        obtain ⟨t, ht⟩ := ((within_cut _ _).1 ((withinB_iff _ _).1 HW.out)).2.2
        have := congrArg List.length ht
        rw [← HP.out, ← has] at this
        simp at this
        omega
      have HA := hide has
      clear has hB6 hO5 hB5w hR5
      have hD := Rd.drop (k := qs.length) hR6 hpcap
      have ln : ((ps.drop qs.length).length : Int) = ps.length - qs.length := by rw [List.length_drop]; omega
      have HL := hide (show (cs ++ ps.drop qs.length).map toL = movedL (toL p) (toL a) (toL b) by
        unfold movedL
        rw [List.map_append, HC.out, ← HP.out, ← HA.out, List.length_map, List.map_drop])
      have HSZ := hide (show ∀ (k : Nat) (x : ByteArray), (cs ++ ps.drop qs.length)[k]? = some x → (x.size : Int) ≤ 1000000 from fun k x hx => by
        rcases List.mem_append.1 (List.mem_of_getElem? hx) with h | h
        · obtain ⟨j, hj⟩ := List.getElem?_of_mem h
          have := piece_size HC.out hj; simp [toL] at this; omega
        · obtain ⟨j, hj⟩ := List.getElem?_of_mem (List.mem_of_mem_drop h)
          have := piece_size HP.out hj; simp [toL] at this; omega)
      have fin : ∀ (v : Value) (w7 : World), w7.ownsRow w.heap.size 9 1 v (cs.length + (ps.length - qs.length)) (cs.map Value.string ++ (ps.drop qs.length).map Value.string) →
          ∃ D d, v = .slice D (cs.length + (ps.length - qs.length)) d ∧ Calls Tryd.prog 54 #[.slice D (cs.length + (ps.length - qs.length)) d] w7 fun e w' => (∃ g : ByteArray, e = .returned (.string g) ∧ toL g = glueL (movedL (toL p) (toL a) (toL b)) ∧ True) ∧ w' = w7 := fun v w7 ho => by
        obtain ⟨D, d, rfl⟩ := ownsRow_slice ho
        refine ⟨D, d, rfl, ?_⟩
        have hlen : (cs ++ ps.drop qs.length).length = cs.length + (ps.length - qs.length) := by simp
        have := refGlue_any D (cs ++ ps.drop qs.length) d w7.heap.size w7 (Rd.own (n := cs.length + (ps.length - qs.length)) (c := d) (by rw [List.map_append]; exact ho)) (by rw [hlen]; omega) HSZ.out
        rw [hlen, HL.out] at this
        exact this.mono fun e w' ⟨⟨g, h1, h2, _⟩, h3⟩ => ⟨⟨g, h1, h2, trivial⟩, h3⟩
      have HF := hide fin
      have HLn := hide (show decide ((movedL (toL p) (toL a) (toL b)).length ≤ 16) = decide (cs.length + (ps.length - qs.length) ≤ 16) by rw [← HL.out]; simp)
      have HM2 := hide (show moveOk p a b = decide (cs.length + (ps.length - qs.length) ≤ 16) by rw [HM.out, HW.out, HR.out, HLn.out]; rfl)
      have HB := hide (show ∀ g : ByteArray, toL g = glueL (movedL (toL p) (toL a) (toL b)) → g = movedB p a b from fun g hg => toL_inj (hg.trans (moved_cut p a b (by rw [okB_eq]; exact HW.out)).symm))
      clear fin HSZ HL ln HLn HP HC HA HM HW HR hR6
      by_cases hpq : pc = qs.length
      · rw [if_pos hpq] at hD
        go_wp2_with (at_builtin; refine wpList_append_texts rfl _ _ 59 rfl w.heap.size 9 i0 Tryd.underlying59 hi hz0 hz1 hz2 v4 cs.length (cs.map Value.string) rfl hO6 _ _ _ w5.heap.size (ps.drop qs.length) rfl (by simp) hD (by unfold maxLen; omega) (by omega) hB6w.size ?_)
        intro v7 w7 hO7 hg7
        rw [← List.map_drop] at hO7
        have hB7 := hB6w.grown hg7 hB6w.size (fun r e => (hO6.lt r e).1)
        obtain ⟨D, d, rfl, hG⟩ := HF.out v7 w7 hO7
        have HG := hide hG
        have hN32 : ((cs.length + (ps.length - qs.length) : Nat) : Int) ≤ 32 := by omega
        clear hG hO7 hg7 hO6 hB6w hD HF hpq
        generalize cs.length + (ps.length - qs.length) = N at HG HM2 hN32 ⊢
        by_cases hl : (16 : Int) < N
        · have HN := hide (show moveOk p a b = false by rw [HM2.out, decide_eq_false_iff_not]; omega)
          go_wp2_with fail
          refine bodyPost_ret (results_tmp2 rfl _ _ _) rfl ⟨by unfold movedV; rw [HN.out]; rfl, hB7⟩
        · have HN := hide (show moveOk p a b = true by rw [HM2.out, decide_eq_true_iff]; omega)
          go_wp2_with fail
          refine HG.out.mono ?_
          rintro e w8 ⟨⟨g, rfl, hg, _⟩, rfl⟩
          obtain rfl := HB.out g hg
          clear hg
          go_wp2_with fail
          refine bodyPost_ret (results_tmp2 rfl _ _ _) rfl ⟨by unfold movedV; rw [HN.out]; rfl, hB7⟩
      · rw [if_neg hpq] at hD
        go_wp2_with (at_builtin; refine wpList_append_texts rfl _ _ 59 rfl w.heap.size 9 i0 Tryd.underlying59 hi hz0 hz1 hz2 v4 cs.length (cs.map Value.string) rfl hO6 _ _ _ w5.heap.size (ps.drop qs.length) rfl (by simp) hD (by unfold maxLen; omega) (by omega) hB6w.size ?_)
        intro v7 w7 hO7 hg7
        rw [← List.map_drop] at hO7
        have hB7 := hB6w.grown hg7 hB6w.size (fun r e => (hO6.lt r e).1)
        obtain ⟨D, d, rfl, hG⟩ := HF.out v7 w7 hO7
        have HG := hide hG
        have hN32 : ((cs.length + (ps.length - qs.length) : Nat) : Int) ≤ 32 := by omega
        clear hG hO7 hg7 hO6 hB6w hD HF hpq
        generalize cs.length + (ps.length - qs.length) = N at HG HM2 hN32 ⊢
        by_cases hl : (16 : Int) < N
        · have HN := hide (show moveOk p a b = false by rw [HM2.out, decide_eq_false_iff_not]; omega)
          go_wp2_with fail
          refine bodyPost_ret (results_tmp2 rfl _ _ _) rfl ⟨by unfold movedV; rw [HN.out]; rfl, hB7⟩
        · have HN := hide (show moveOk p a b = true by rw [HM2.out, decide_eq_true_iff]; omega)
          go_wp2_with fail
          refine HG.out.mono ?_
          rintro e w8 ⟨⟨g, rfl, hg, _⟩, rfl⟩
          obtain rfl := HB.out g hg
          clear hg
          go_wp2_with fail
          refine bodyPost_ret (results_tmp2 rfl _ _ _) rfl ⟨by unfold movedV; rw [HN.out]; rfl, hB7⟩
end Go.Proofs.YtbklgijndjpgoaaDoor
