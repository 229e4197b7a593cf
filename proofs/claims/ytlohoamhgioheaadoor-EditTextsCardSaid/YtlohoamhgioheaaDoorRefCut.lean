/-
  The reference's Cut; slices of texts that are read.
-/
import Derived.Test.YtlohoamhgioheaaDoorPathGlue
import Derived.OwnWalk
import Derived.IntWalk
import Derived.RangeFuncBox
import Derived.StillTailTactics
namespace Go.Proofs.YtlohoamhgioheaaDoor
open Go.RowKit
set_option maxRecDepth 100000

/-- Texts that lie at an address, one behind the other, below block B. -/
def Rd (w : World) (B : Nat) (A : Option Addr) (l : List ByteArray) : Prop :=
  ∀ k x, l[k]? = some x → ∃ ad : Addr, A = some ad ∧ ad.block < B ∧ w.cell? (ad.add k) = some (.string x)
theorem Rd.below {w w' : World} {B B' : Nat} {A : Option Addr} {l : List ByteArray} (h : Rd w B A l) (hb : Below B' w w') (hB : B ≤ B') : Rd w' B A l := fun k x hx => by
  obtain ⟨ad, e, hlt, hc⟩ := h k x hx
  exact ⟨ad, e, hlt, (hb.cell (by rw [add_block]; omega)).trans hc⟩
theorem Rd.mono {w : World} {B B' : Nat} {A : Option Addr} {l : List ByteArray} (h : Rd w B A l) (hB : B ≤ B') : Rd w B' A l := fun k x hx => by
  obtain ⟨ad, e, hlt, hc⟩ := h k x hx
  exact ⟨ad, e, by omega, hc⟩
theorem Rd.nil (w : World) (B : Nat) (A : Option Addr) : Rd w B A [] := fun k x hx => by simp at hx
theorem Rd.own {w : World} {base n c : Nat} {e : TypeId} {A : Option Addr} {l : List ByteArray} (h : w.ownsRow base e 1 (.slice A n c) n (l.map Value.string)) : Rd w w.heap.size A l := fun k x hx => by
  rcases h.2 with ⟨hv, h0⟩ | ⟨g, cap, cur, hv, _, hg, _⟩
  · have := h.1
    rw [h0] at this
    simp at this
    subst this
    simp at hx
  · injection hv with hA
    subst hA
    refine ⟨_, rfl, (Array.getElem?_eq_some_iff.1 hg).1, h.cells (g := g) rfl k _ ?_⟩
    rw [List.getElem?_map, hx]; rfl
theorem toL_app (s t : ByteArray) : toL (s ++ t) = toL s ++ toL t := by simp [toL]
theorem toL_ext (s : ByteArray) (i j : Nat) : toL (s.extract i j) = ((toL s).drop i).take (j - i) := Lib.extract_data s i j
/-- A call's answer: a slice of these texts. -/
def Cuts (w0 : World) (l : List (List UInt8)) (e : Ending) (w' : World) : Prop :=
  ∃ A c, ∃ cs : List ByteArray, e = .returned (.slice A cs.length c) ∧ cs.map toL = l ∧ cs.length ≤ c ∧ Rd w' w'.heap.size A cs ∧ Below w0.heap.size w0 w'

theorem info_string : (Tryd.prog.info? 9).map (fun i => (i.zero, i.size, i.bytes)) = some (some (.string ⟨#[]⟩), 1, 16) := by kernel_rfl

set_option maxHeartbeats 2000000 in
theorem refCut_any (p : ByteArray) (w : World) (hp : (p.size : Int) ≤ 1000000) :
    Calls Tryd.prog 42 #[.string p] w (Cuts w (cutL (toL p))) := by
  obtain ⟨i0, hi, hz0, hz1, hz2⟩ := info_parts info_string
  cases he : p.toList.isEmpty with
  | true =>
    have HC := hide (show cutL (toL p) = [] by unfold cutL toL; rw [← Lib.toList_data, he]; rfl)
    go_enter Tryd.func42, Tryd.ntmps42
    go_wp2_with fail
    refine bodyPost_ret (results_tmp rfl _ _ _) rfl ⟨none, 0, [], rfl, HC.out.symm, by simp, Rd.nil _ _ _, Below.refl _ _⟩
  | false =>
    have HC := hide (show cutL (toL p) = splitL (toL p) by unfold cutL toL; rw [← Lib.toList_data, he]; rfl)
    go_enter Tryd.func42, Tryd.ntmps42
    go_wp2_with fail
    go_loopw [3, 4] (fun v i wr => ∃ (k : Nat) (a : List ByteArray) (x : ByteArray) (g cap : Nat), k ≤ p.size ∧ i = .int .i64 k ∧ v = .slice (some ⟨g, 0, none⟩) (a.length + 1) cap ∧ a.length + 1 ≤ cap ∧ a.length ≤ k ∧ x.size ≤ k ∧ Hid ((a ++ [x]).map toL = splitL ((toL p).take k)) ∧
        wr.ownsRow w.heap.size 9 1 v (a.length + 1) (a.map Value.string ++ [.string x]) ∧ Below w.heap.size w wr) (fun _ i _ => p.size - (intOf i).toNat)
    case atStart => exact ⟨0, [], ⟨#[]⟩, _, 1, Nat.zero_le _, rfl, rfl, by simp, by simp, Nat.zero_le _, hide (by simp [splitL, toL]), World.ownsRow_lit w _ _ (Nat.le_refl _) (by decide) rfl, (Below.refl _ _).alloc (Nat.le_refl _) _⟩
    case round =>
      obtain ⟨k, a, x, g, cap, hk, rfl, rfl, hcap, hak, hxk, HS, hown, hB⟩ := hrel
      by_cases hlt : (k : Int) < p.size
      · have hlt' : k < p.size := by omega
        have hts : (toL p).take (k + 1) = (toL p).take k ++ [p[k]] := by
          rw [List.take_succ_eq_append_getElem (by simpa [toL] using hlt')]; rfl
        obtain ⟨a', x', s0, s1, s2⟩ := splitL_snoc ((toL p).take k)
        by_cases hc : p[k] = 47
        · have HN := hide (show ((a ++ [x]) ++ [(⟨#[]⟩ : ByteArray)]).map toL = splitL ((toL p).take (k + 1)) by
            rw [hts, hc, s1, ← s0, ← HS.out, List.map_append]; rfl)
          have hb : ((p[k].toNat : Int) == 47) = true := by rw [hc]; rfl
          clear s0 s1 s2 hts hc
          have HZ := hB.size
          go_wp2_with (at_builtin; refine wpList_append_own _ rfl _ _ 46 rfl w.heap.size 9 i0 (.string ⟨#[]⟩) 1 16 Tryd.underlying46 hi hz0 hz1 hz2 rfl (by decide) _ _ _ rfl (hown.alloc _) ⟨wr.heap.size, 0, none⟩ 1 1 [.string ⟨#[]⟩] rfl rfl (cell_one_new _ _ _) (by simp [Value.oneCell']) (by unfold maxLen; omega) (by omega) (by simp; omega) ?_)
          intro v' w' hown' hgrow hnil
          obtain ⟨g', cap', rfl⟩ := ownsRow_succ hown'
          go_wp2_with fail
          go_roundw
          case rel =>
            refine ⟨k + 1, a ++ [x], ⟨#[]⟩, g', cap', by omega, rfl, by simp, ?_, by simp; omega, Nat.zero_le _, HN, by simpa using hown', (hB.alloc hB.size _).grown hgrow (by simp; omega) (fun r e => (hown.lt r e).1)⟩
            have := ownsRow_cap hown'
            simpa using this
          case measure => simp [intOf]; omega
        · have HN := hide (show (a ++ [x ++ p.extract k (k + 1)]).map toL = splitL ((toL p).take (k + 1)) by
            have h0 := HS.out
            rw [s0, List.map_append] at h0
            obtain ⟨e1, e2⟩ := List.append_inj' h0 rfl
            have e2 : toL x = x' := by simpa using e2
            rw [hts, s2 _ (by simpa using hc), List.map_append, e1, ← e2]
            rw [List.map_cons, List.map_nil, toL_app, toL_ext, List.drop_eq_getElem_cons (by simpa [toL] using hlt')]
            rw [show k + 1 - k = 1 by omega]
            rfl)
          have hb : ((p[k].toNat : Int) == 47) = false := by
            have : ¬ (p[k].toNat : Int) = 47 := fun e => hc (UInt8.toNat_inj.1 (by have : (47 : UInt8).toNat = 47 := rfl; omega))
            simpa using this
          clear s0 s1 s2 hts hc
          go_wp2_with fail
          have hc1 : wr.cell? ⟨g, a.length, none⟩ = some (.string x) := by rw [hown.cellAt _ (by omega)]; simp
          have hf1 := hown.frozenAt a.length
          have w1 : IntKind.i64.wrap ((a.length : Nat) : Int) = a.length := IntWalk.i64_in _ (by omega)
          have w2 : IntKind.i64.wrap ((k : Int) + 1) = (k : Int) + 1 := IntWalk.i64_in _ (by omega)
          have w3 : ((k : Int) + 1).toNat = k + 1 := by omega
          have w4 : (k : Int) + 1 ≤ p.size := by omega
          have w5 : ((a.length : Nat) : Int) < ((a.length : Nat) : Int) + 1 := by omega
          have w8 : ¬ 9223372036854775807 < x.size + (min (k + 1) p.size - k) := by omega
          have w6 : (k : Int) ≤ (k : Int) + 1 := by omega
          have w7 : (0 : Int) ≤ (k : Int) + 1 := by omega
          go_still_tail 17, (by kernel_rfl)
          change wpList _ _ _ _ _ wr.drew
          have HB2 := hB.drew
          have HO2 := hown.drew
          clear hB hown hc1 w1 w2 w3 w4 w5 w6 w7 w8
          generalize wr.drew = wq at HB2 HO2
          have hf2 := HO2.frozenAt a.length
          have hc2 : wq.cell? ⟨g, a.length, none⟩ = some (.string x) := by rw [HO2.cellAt _ (by omega)]; simp
          go_wp2_with fail
          go_roundw
          case rel =>
            obtain ⟨ho, hg⟩ := HO2.stored a.length (.string (x ++ p.extract k (k + 1)))
            refine ⟨k + 1, a, x ++ p.extract k (k + 1), g, cap, by omega, rfl, rfl, hcap, by omega, by simp; omega, HN, ?_, HB2.grown hg HB2.size (fun r e => by cases e; exact (HO2.lt g rfl).1)⟩
            rw [show (a.map Value.string ++ [Value.string x]).set a.length (Value.string (x ++ p.extract k (k + 1))) = a.map Value.string ++ [Value.string (x ++ p.extract k (k + 1))] by simp] at ho
            exact ho
          case measure => simp [intOf]; omega
      · obtain rfl : k = p.size := by omega
        have HT := hide (show (a ++ [x]).map toL = cutL (toL p) by
          rw [HC.out, HS.out, List.take_of_length_le (by simp [toL])])
        go_wp2_with fail
        refine bodyPost_ret (results_tmp rfl _ _ _) rfl ⟨some ⟨g, 0, none⟩, cap, a ++ [x], by simp, HT.out, by simpa using hcap, Rd.own (n := (a ++ [x]).length) (by simpa using hown), hB⟩
end Go.Proofs.YtlohoamhgioheaaDoor
