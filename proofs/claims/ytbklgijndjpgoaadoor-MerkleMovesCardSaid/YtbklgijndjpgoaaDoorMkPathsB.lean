/-
  Texts that belong together: RefCut, PathRefName, RefRight, PathCmpL, PathRefText, PathPreCut, PathTrim, PathMoves, PathMath, PathWithin, PathCut, RefCmp.
-/
import Derived.Test.YtbklgijndjpgoaaDoorMkPathsA
import Derived.OwnWalk
import Derived.IntWalk
import Derived.RangeFuncBox
import Derived.StillTailTactics
import Derived.Deep.DeepCutAuto
import Derived.Deep.QuietTactic
import Derived.BigQuiet
import Derived.WalkKit
import Derived.WalkSpells
import Derived.WalkLawsBesides
import Derived.WalkSmall
/-
  The reference's Cut; slices of texts that are read.
-/
namespace Go.Proofs.YtbklgijndjpgoaaDoor
open Go.RowKit
set_option maxRecDepth 100000

/-- Texts that lie at an address, one behind the other, below block B. -/
def Rd (w : World) (B : Nat) (A : Option Addr) (l : List ByteArray) : Prop :=
  ∀ k x, l[k]? = some x → ∃ ad : Addr, A = some ad ∧ ad.block < B ∧ w.cell? (ad.add k) = some (.string x)
theorem Rd.below {w w' : World} {B B' : Nat} {A : Option Addr} {l : List ByteArray} (h : Rd w B A l) (hb : Below B' w w') (hB : B ≤ B') : Rd w' B A l := fun k x hx => by
  obtain ⟨ad, e, hlt, hc⟩ := h k x hx
  exact ⟨ad, e, hlt, (hb.cell (by rw [add_block]; omega)).trans hc⟩
theorem Rd.mono {w : World} {B B' : Nat} {A : Option Addr} {l : List ByteArray} (h : Rd w B A l) (hB : B ≤ B') : Rd w B' A l := fun k x hx => by
  obtain ⟨ad, e, hlt, hc⟩ := h k x hx
  exact ⟨ad, e, by omega, hc⟩
theorem Rd.nil (w : World) (B : Nat) (A : Option Addr) : Rd w B A [] := fun k x hx => by simp at hx
theorem Rd.own {w : World} {base n c : Nat} {e : TypeId} {A : Option Addr} {l : List ByteArray} (h : w.ownsRow base e 1 (.slice A n c) n (l.map Value.string)) : Rd w w.heap.size A l := fun k x hx => by
  rcases h.2 with ⟨hv, h0⟩ | ⟨g, cap, cur, hv, _, hg, _⟩
  · have := h.1
    rw [h0] at this
    simp at this
    subst this
    simp at hx
  · injection hv with hA
    subst hA
    refine ⟨_, rfl, (Array.getElem?_eq_some_iff.1 hg).1, h.cells (g := g) rfl k _ ?_⟩
    rw [List.getElem?_map, hx]; rfl
theorem toL_app (s t : ByteArray) : toL (s ++ t) = toL s ++ toL t := by simp [toL]
theorem toL_ext (s : ByteArray) (i j : Nat) : toL (s.extract i j) = ((toL s).drop i).take (j - i) := Lib.extract_data s i j
/-- A call's answer: a slice of these texts. -/
def Cuts (w0 : World) (l : List (List UInt8)) (e : Ending) (w' : World) : Prop :=
  ∃ A c, ∃ cs : List ByteArray, e = .returned (.slice A cs.length c) ∧ cs.map toL = l ∧ cs.length ≤ c ∧ Rd w' w'.heap.size A cs ∧ Below w0.heap.size w0 w'

theorem info_string : (Tryd.prog.info? 9).map (fun i => (i.zero, i.size, i.bytes)) = some (some (.string ⟨#[]⟩), 1, 16) := by kernel_rfl

set_option maxHeartbeats 2000000 in
theorem refCut_any (p : ByteArray) (w : World) (hp : (p.size : Int) ≤ 1000000) :
    Calls Tryd.prog 52 #[.string p] w (Cuts w (cutL (toL p))) := by
  obtain ⟨i0, hi, hz0, hz1, hz2⟩ := info_parts info_string
  cases he : p.toList.isEmpty with
  | true =>
    have HC := hide (show cutL (toL p) = [] by unfold cutL toL; rw [← Lib.toList_data, he]; rfl)
    go_enter Tryd.func52, Tryd.ntmps52
    go_wp2_with fail
    refine bodyPost_ret (results_tmp rfl _ _ _) rfl ⟨none, 0, [], rfl, HC.out.symm, by simp, Rd.nil _ _ _, Below.refl _ _⟩
  | false =>
    have HC := hide (show cutL (toL p) = splitL (toL p) by unfold cutL toL; rw [← Lib.toList_data, he]; rfl)
    go_enter Tryd.func52, Tryd.ntmps52
    go_wp2_with fail
    go_loopw [3, 4] (fun v i wr => ∃ (k : Nat) (a : List ByteArray) (x : ByteArray) (g cap : Nat), k ≤ p.size ∧ i = .int .i64 k ∧ v = .slice (some ⟨g, 0, none⟩) (a.length + 1) cap ∧ a.length + 1 ≤ cap ∧ a.length ≤ k ∧ x.size ≤ k ∧ Hid ((a ++ [x]).map toL = splitL ((toL p).take k)) ∧
        wr.ownsRow w.heap.size 9 1 v (a.length + 1) (a.map Value.string ++ [.string x]) ∧ Below w.heap.size w wr) (fun _ i _ => p.size - (intOf i).toNat)
    case atStart => exact ⟨0, [], ⟨#[]⟩, _, 1, Nat.zero_le _, rfl, rfl, by simp, by simp, Nat.zero_le _, hide (by simp [splitL, toL]), World.ownsRow_lit w _ _ (Nat.le_refl _) (by decide) rfl, (Below.refl _ _).alloc (Nat.le_refl _) _⟩
    case round =>
      obtain ⟨k, a, x, g, cap, hk, rfl, rfl, hcap, hak, hxk, HS, hown, hB⟩ := hrel
      by_cases hlt : (k : Int) < p.size
      · have hlt' : k < p.size := by omega
        have hts : (toL p).take (k + 1) = (toL p).take k ++ [p[k]] := by
          rw [List.take_succ_eq_append_getElem (by simpa [toL] using hlt')]; rfl
        obtain ⟨a', x', s0, s1, s2⟩ := splitL_snoc ((toL p).take k)
        by_cases hc : p[k] = 47
        · have HN := hide (show ((a ++ [x]) ++ [(⟨#[]⟩ : ByteArray)]).map toL = splitL ((toL p).take (k + 1)) by
            rw [hts, hc, s1, ← s0, ← HS.out, List.map_append]; rfl)
          have hb : ((p[k].toNat : Int) == 47) = true := by rw [hc]; rfl
          clear s0 s1 s2 hts hc
          have HZ := hB.size
          go_wp2_with (at_builtin; refine wpList_append_own _ rfl _ _ 59 rfl w.heap.size 9 i0 (.string ⟨#[]⟩) 1 16 Tryd.underlying59 hi hz0 hz1 hz2 rfl (by decide) _ _ _ rfl (hown.alloc _) ⟨wr.heap.size, 0, none⟩ 1 1 [.string ⟨#[]⟩] rfl rfl (cell_one_new _ _ _) (by simp [Value.oneCell']) (by unfold maxLen; omega) (by omega) (by simp; omega) ?_)
          intro v' w' hown' hgrow hnil
          obtain ⟨g', cap', rfl⟩ := ownsRow_succ hown'
          go_wp2_with fail
          go_roundw
          case rel =>
            refine ⟨k + 1, a ++ [x], ⟨#[]⟩, g', cap', by omega, rfl, by simp, ?_, by simp; omega, Nat.zero_le _, HN, by simpa using hown', (hB.alloc hB.size _).grown hgrow (by simp; omega) (fun r e => (hown.lt r e).1)⟩
            have := ownsRow_cap hown'
            simpa using this
          case measure => simp [intOf]; omega
        · have HN := hide (show (a ++ [x ++ p.extract k (k + 1)]).map toL = splitL ((toL p).take (k + 1)) by
            have h0 := HS.out
            rw [s0, List.map_append] at h0
            obtain ⟨e1, e2⟩ := List.append_inj' h0 rfl
            have e2 : toL x = x' := by simpa using e2
            rw [hts, s2 _ (by simpa using hc), List.map_append, e1, ← e2]
            rw [List.map_cons, List.map_nil, toL_app, toL_ext, List.drop_eq_getElem_cons (by simpa [toL] using hlt')]
            rw [show k + 1 - k = 1 by omega]
            rfl)
          have hb : ((p[k].toNat : Int) == 47) = false := by
            have : ¬ (p[k].toNat : Int) = 47 := fun e => hc (UInt8.toNat_inj.1 (by have : (47 : UInt8).toNat = 47 := rfl; omega))
            simpa using this
          clear s0 s1 s2 hts hc
          go_wp2_with fail
          have hc1 : wr.cell? ⟨g, a.length, none⟩ = some (.string x) := by rw [hown.cellAt _ (by omega)]; simp
          have hf1 := hown.frozenAt a.length
          have w1 : IntKind.i64.wrap ((a.length : Nat) : Int) = a.length := IntWalk.i64_in _ (by omega)
          have w2 : IntKind.i64.wrap ((k : Int) + 1) = (k : Int) + 1 := IntWalk.i64_in _ (by omega)
          have w3 : ((k : Int) + 1).toNat = k + 1 := by omega
          have w4 : (k : Int) + 1 ≤ p.size := by omega
          have w5 : ((a.length : Nat) : Int) < ((a.length : Nat) : Int) + 1 := by omega
          have w8 : ¬ 9223372036854775807 < x.size + (min (k + 1) p.size - k) := by omega
          have w6 : (k : Int) ≤ (k : Int) + 1 := by omega
          have w7 : (0 : Int) ≤ (k : Int) + 1 := by omega
          go_still_tail 17, (by kernel_rfl)
          change wpList _ _ _ _ _ wr.drew
          have HB2 := hB.drew
          have HO2 := hown.drew
          clear hB hown hc1 w1 w2 w3 w4 w5 w6 w7 w8
          generalize wr.drew = wq at HB2 HO2
          have hf2 := HO2.frozenAt a.length
          have hc2 : wq.cell? ⟨g, a.length, none⟩ = some (.string x) := by rw [HO2.cellAt _ (by omega)]; simp
          go_wp2_with fail
          go_roundw
          case rel =>
            obtain ⟨ho, hg⟩ := HO2.stored a.length (.string (x ++ p.extract k (k + 1)))
            refine ⟨k + 1, a, x ++ p.extract k (k + 1), g, cap, by omega, rfl, rfl, hcap, by omega, by simp; omega, HN, ?_, HB2.grown hg HB2.size (fun r e => by cases e; exact (HO2.lt g rfl).1)⟩
            rw [show (a.map Value.string ++ [Value.string x]).set a.length (Value.string (x ++ p.extract k (k + 1))) = a.map Value.string ++ [Value.string (x ++ p.extract k (k + 1))] by simp] at ho
            exact ho
          case measure => simp [intOf]; omega
      · obtain rfl : k = p.size := by omega
        have HT := hide (show (a ++ [x]).map toL = cutL (toL p) by
          rw [HC.out, HS.out, List.take_of_length_le (by simp [toL])])
        go_wp2_with fail
        refine bodyPost_ret (results_tmp rfl _ _ _) rfl ⟨some ⟨g, 0, none⟩, cap, a ++ [x], by simp, HT.out, by simpa using hcap, Rd.own (n := (a ++ [x]).length) (by simpa using hown), hB⟩
end Go.Proofs.YtbklgijndjpgoaaDoor
/-
  The reference's Name.
-/
namespace Go.Proofs.YtbklgijndjpgoaaDoor
open Go.RowKit
set_option maxRecDepth 100000

set_option maxRecDepth 100000 in
set_option maxHeartbeats 2000000 in
theorem refName_any (s : ByteArray) (w : World) (hs : (s.size : Int) ≤ 9223372036854775800) :
    Calls Tryd.prog 53 #[.string s] w fun e w' => e = .returned (.bool (nameL s.data.toList)) ∧ w' = w := by
  go_enter Tryd.func53, Tryd.ntmps53
  go_wp2_with fail
  go_loop [3] (fun i => ∃ k : Nat, k ≤ s.size ∧ i = .int .i64 k ∧ Hid ((s.data.toList.take k).all (fun c => letter c.toNat) = true)) (fun i => s.size - (intOf i).toNat)
  case atStart => exact ⟨0, Nat.zero_le _, rfl, by simp [Hid]⟩
  case round =>
    obtain ⟨k, hk, rfl, HA⟩ := hrel
    by_cases hlt : (k : Int) < s.size
    · have hlt' : k < s.size := by omega
      have hsn := nameL_snoc s k hlt'
      rw [HA.out, Bool.true_and] at hsn
      have HS := hide hsn
      clear hsn
      go_upto_region 5 with fail
      go_cut [4, 48] (fun _ s48 wx => s48 = .bool (!letter s[k].toNat) ∧ wx = w)
      case first =>
        by_cases e46 : (s[k].toNat : Int) = 46
        · have HL := hide (show letter (s[k].toNat : Int) = true by rw [e46]; rfl)
          go_wp2_with fail
          go_meet
          exact ⟨by rw [HL.out]; rfl, rfl⟩
        by_cases e95 : (s[k].toNat : Int) = 95
        · have HL := hide (show letter (s[k].toNat : Int) = true by rw [e95]; rfl)
          go_wp2_with fail
          go_meet
          exact ⟨by rw [HL.out]; rfl, rfl⟩
        by_cases e45 : (s[k].toNat : Int) = 45
        · have HL := hide (show letter (s[k].toNat : Int) = true by rw [e45]; rfl)
          go_wp2_with fail
          go_meet
          exact ⟨by rw [HL.out]; rfl, rfl⟩
        have d46 : ((s[k].toNat : Int) == 46) = false := beq_eq_false_iff_ne.2 e46
        have d95 : ((s[k].toNat : Int) == 95) = false := beq_eq_false_iff_ne.2 e95
        have d45 : ((s[k].toNat : Int) == 45) = false := beq_eq_false_iff_ne.2 e45
        clear e46 e95 e45
        by_cases r0 : (s[k].toNat : Int) < 48
        · have HL := hide (show letter (s[k].toNat : Int) = false by unfold letter; rw [d46, d95, d45]; simp; omega)
          have f0 : ¬ 97 ≤ (s[k].toNat : Int) := by omega
          have f1 : ¬ 65 ≤ (s[k].toNat : Int) := by omega
          have f2 : ¬ 48 ≤ (s[k].toNat : Int) := by omega
          clear r0
          go_wp2_with fail
          go_meet
          exact ⟨by rw [HL.out]; rfl, rfl⟩
        by_cases r1 : 48 ≤ (s[k].toNat : Int) ∧ (s[k].toNat : Int) ≤ 57
        · have HL := hide (show letter (s[k].toNat : Int) = true by unfold letter; rw [d46, d95, d45]; simp; omega)
          have f0 : ¬ 97 ≤ (s[k].toNat : Int) := by omega
          have f1 : ¬ 65 ≤ (s[k].toNat : Int) := by omega
          have f2 : 48 ≤ (s[k].toNat : Int) := by omega
          have f3 : (s[k].toNat : Int) ≤ 57 := by omega
          clear r1
          go_wp2_with fail
          go_meet
          exact ⟨by rw [HL.out]; rfl, rfl⟩
        by_cases r2 : 57 < (s[k].toNat : Int) ∧ (s[k].toNat : Int) < 65
        · have HL := hide (show letter (s[k].toNat : Int) = false by unfold letter; rw [d46, d95, d45]; simp; omega)
          have f0 : ¬ 97 ≤ (s[k].toNat : Int) := by omega
          have f1 : ¬ 65 ≤ (s[k].toNat : Int) := by omega
          have f2 : 48 ≤ (s[k].toNat : Int) := by omega
          have f3 : ¬ (s[k].toNat : Int) ≤ 57 := by omega
          clear r2
          go_wp2_with fail
          go_meet
          exact ⟨by rw [HL.out]; rfl, rfl⟩
        by_cases r3 : 65 ≤ (s[k].toNat : Int) ∧ (s[k].toNat : Int) ≤ 90
        · have HL := hide (show letter (s[k].toNat : Int) = true by unfold letter; rw [d46, d95, d45]; simp; omega)
          have f0 : ¬ 97 ≤ (s[k].toNat : Int) := by omega
          have f1 : 65 ≤ (s[k].toNat : Int) := by omega
          have f2 : (s[k].toNat : Int) ≤ 90 := by omega
          clear r3
          go_wp2_with fail
          go_meet
          exact ⟨by rw [HL.out]; rfl, rfl⟩
        by_cases r4 : 90 < (s[k].toNat : Int) ∧ (s[k].toNat : Int) < 97
        · have HL := hide (show letter (s[k].toNat : Int) = false by unfold letter; rw [d46, d95, d45]; simp; omega)
          have f0 : ¬ 97 ≤ (s[k].toNat : Int) := by omega
          have f1 : 65 ≤ (s[k].toNat : Int) := by omega
          have f2 : ¬ (s[k].toNat : Int) ≤ 90 := by omega
          have f3 : 48 ≤ (s[k].toNat : Int) := by omega
          have f4 : ¬ (s[k].toNat : Int) ≤ 57 := by omega
          clear r4
          go_wp2_with fail
          go_meet
          exact ⟨by rw [HL.out]; rfl, rfl⟩
        by_cases r5 : 97 ≤ (s[k].toNat : Int) ∧ (s[k].toNat : Int) ≤ 122
        · have HL := hide (show letter (s[k].toNat : Int) = true by unfold letter; rw [d46, d95, d45]; simp; omega)
          have f0 : 97 ≤ (s[k].toNat : Int) := by omega
          have f1 : (s[k].toNat : Int) ≤ 122 := by omega
          clear r5
          go_wp2_with fail
          go_meet
          exact ⟨by rw [HL.out]; rfl, rfl⟩
        by_cases r6 : 122 < (s[k].toNat : Int)
        · have HL := hide (show letter (s[k].toNat : Int) = false by unfold letter; rw [d46, d95, d45]; simp; omega)
          have f0 : 97 ≤ (s[k].toNat : Int) := by omega
          have f1 : ¬ (s[k].toNat : Int) ≤ 122 := by omega
          have f2 : 65 ≤ (s[k].toNat : Int) := by omega
          have f3 : ¬ (s[k].toNat : Int) ≤ 90 := by omega
          have f4 : 48 ≤ (s[k].toNat : Int) := by omega
          have f5 : ¬ (s[k].toNat : Int) ≤ 57 := by omega
          clear r6
          go_wp2_with fail
          go_meet
          exact ⟨by rw [HL.out]; rfl, rfl⟩
        omega
      case rest =>
        obtain ⟨rfl, rfl⟩ := hcut
        cases hc : letter s[k].toNat with
        | true =>
          go_wp2_with fail
          go_round
          case rel => exact ⟨k + 1, by omega, rfl, hide (by rw [HS.out, hc])⟩
          case measure => simp [intOf]; omega
        | false =>
          have HF := hide (show nameL s.data.toList = false by
            have h := HS.out
            rw [hc] at h
            have e : s.data.toList.all (fun c => letter c.toNat) = false := by
              rw [← List.take_append_drop (k + 1) s.data.toList, List.all_append, h]; rfl
            unfold nameL
            rw [e, Bool.and_false])
          go_wp2_with fail
          refine bodyPost_ret (results_tmp rfl _ _ _) rfl ⟨by rw [HF.out]; rfl, rfl⟩
    · obtain rfl : k = s.size := by omega
      have hall : s.data.toList.all (fun c => letter c.toNat) = true := by
        have h := HA.out
        rw [List.take_of_length_le (by simp)] at h
        exact h
      have hN : nameL s.data.toList = (!s.data.toList.isEmpty && decide (s.data.toList.length ≤ 12) && !(s.data.toList == [46]) && !(s.data.toList == [46, 46])) := by unfold nameL; rw [hall, Bool.and_true]
      rw [← Lib.toList_data] at hN
      have hsz : s.toList.length = s.size := by rw [Lib.toList_data]; simp
      rw [hsz] at hN
      clear hall HA hlt hk
      by_cases z1 : (1 : Int) ≤ s.size
      · have he : s.toList.isEmpty = false := by
          cases h : s.toList.isEmpty with
          | false => rfl
          | true => rw [List.isEmpty_iff.1 h] at hsz; simp at hsz; omega
        rw [he] at hN
        by_cases z2 : (s.size : Int) ≤ 12
        · have hd : decide (s.size ≤ 12) = true := by simp; omega
          rw [hd] at hN
          have HN := hide hN
          clear hN hsz he hd
          cases h46 : (s.toList == [46]) with
          | true =>
            go_wp2_with fail
            refine bodyPost_ret (results_tmp rfl _ _ _) rfl ⟨by rw [Lib.toList_data] at HN h46; rw [HN.out, h46]; rfl, rfl⟩
          | false =>
            go_wp2_with fail
            refine bodyPost_ret (results_tmp rfl _ _ _) rfl ⟨by rw [Lib.toList_data] at HN h46; rw [HN.out, h46, ← Lib.toList_data]; rfl, rfl⟩
        · have hd : decide (s.size ≤ 12) = false := by simp; omega
          rw [hd] at hN
          have HN := hide hN
          clear hN hsz he hd
          go_wp2_with fail
          refine bodyPost_ret (results_tmp rfl _ _ _) rfl ⟨by rw [Lib.toList_data] at HN; rw [HN.out]; rfl, rfl⟩
      · have he : s.toList.isEmpty = true := by
          rw [List.isEmpty_iff]
          apply List.eq_nil_of_length_eq_zero
          omega
        rw [he] at hN
        have HN := hide hN
        clear hN hsz he
        go_wp2_with fail
        refine bodyPost_ret (results_tmp rfl _ _ _) rfl ⟨by rw [Lib.toList_data] at HN; rw [HN.out]; rfl, rfl⟩
end Go.Proofs.YtbklgijndjpgoaaDoor
/-
  The reference's Right and Same.
-/
namespace Go.Proofs.YtbklgijndjpgoaaDoor
open Go.RowKit
set_option maxRecDepth 100000

theorem all_take_succ (cs : List ByteArray) (k : Nat) (x : ByteArray) (hx : cs[k]? = some x) :
    ((cs.map toL).take (k + 1)).all nameL = (((cs.map toL).take k).all nameL && nameL (toL x)) := by
  obtain ⟨hlt, he⟩ := List.getElem?_eq_some_iff.1 hx
  rw [List.take_succ_eq_append_getElem (by simpa using hlt), List.all_append]
  simp [he]

theorem split_len : ∀ (l : List UInt8) (x : List UInt8), x ∈ splitL l → x.length ≤ l.length
  | [], x, h => by simp [splitL] at h; simp [h]
  | c :: r, x, h => by
    have ih := split_len r
    obtain ⟨a, t, hs⟩ := split_some r
    by_cases hc : c = 47
    · subst hc
      rw [split_slash] at h
      rcases List.mem_cons.1 h with rfl | h
      · simp
      · have := ih x h; simp; omega
    · rw [split_other hc hs] at h
      rw [hs] at ih
      rcases List.mem_cons.1 h with rfl | h
      · have := ih a (by simp); simp; omega
      · have := ih x (by simp [h]); simp; omega
theorem cut_len (l x : List UInt8) (h : x ∈ cutL l) : x.length ≤ l.length := by
  unfold cutL at h
  split at h
  · simp at h
  · exact split_len l x h
theorem split_count : ∀ l : List UInt8, (splitL l).length ≤ l.length + 1
  | [] => by simp [splitL]
  | c :: r => by
    have ih := split_count r
    obtain ⟨a, t, hs⟩ := split_some r
    by_cases hc : c = 47
    · subst hc; rw [split_slash]; simp; omega
    · rw [split_other hc hs]; rw [hs] at ih; simp at ih ⊢; omega
theorem cut_count (l : List UInt8) : (cutL l).length ≤ l.length + 1 := by
  unfold cutL
  split
  · simp
  · exact split_count l
theorem piece_size {cs : List ByteArray} {l : List UInt8} (h : cs.map toL = cutL l) {k : Nat} {x : ByteArray} (hx : cs[k]? = some x) : x.size ≤ l.length := by
  have := cut_len l (toL x) (by rw [← h]; exact List.mem_map.2 ⟨x, List.mem_of_getElem? hx, rfl⟩)
  simpa [toL] using this

set_option maxHeartbeats 2000000 in
theorem refRight_any (p : ByteArray) (w : World) (hp : (p.size : Int) ≤ 1000000) :
    Calls Tryd.prog 34 #[.string p] w fun e w' => e = .returned (.bool (rightL (toL p))) ∧ Below w.heap.size w w' := by
  go_enter Tryd.func34, Tryd.ntmps34
  go_wp2_with fail
  refine (refCut_any p w hp).mono ?_
  rintro e w1 ⟨A, c, cs, rfl, hcs, hcap, hR, hB1⟩
  have HC := hide hcs
  have hn : (cs.length : Int) ≤ 1000001 := by
    have := cut_count (toL p)
    rw [← hcs] at this
    simp [toL] at this
    omega
  clear hcs
  go_wp2_with fail
  go_loopw [4] (fun i wr => ∃ k : Nat, k ≤ cs.length ∧ i = .int .i64 k ∧ Hid (((cs.map toL).take k).all nameL = true) ∧ wr = w1) (fun i _ => cs.length - (intOf i).toNat)
  case atStart => exact ⟨0, Nat.zero_le _, rfl, hide (by simp), rfl⟩
  case round =>
    obtain ⟨k, hk, rfl, HA, rfl⟩ := hrel
    by_cases hlt : (k : Int) < cs.length
    · have hlt' : k < cs.length := by omega
      obtain ⟨ad, rfl, hlow, hc⟩ := hR k cs[k] (List.getElem?_eq_getElem hlt')
      have hsn := all_take_succ cs k cs[k] (List.getElem?_eq_getElem hlt')
      rw [HA.out, Bool.true_and] at hsn
      have HS := hide hsn
      clear hsn
      have hsz : (cs[k].size : Int) ≤ 9223372036854775800 := by have := piece_size HC.out (List.getElem?_eq_getElem hlt'); simp [toL] at this; omega
      go_wp2_with fail
      refine (refName_any cs[k] _ hsz).mono ?_
      rintro e w2 ⟨rfl, rfl⟩
      cases hn : nameL cs[k].data.toList with
      | true =>
        go_wp2_with fail
        go_roundw
        case rel => exact ⟨k + 1, by omega, rfl, hide (by rw [HS.out]; exact hn), trivial⟩
        case measure => simp [intOf]; omega
      | false =>
        have HF := hide (show rightL (toL p) = false by
          have h := HS.out
          rw [show nameL (toL cs[k]) = false from hn, HC.out] at h
          have e : (cutL (toL p)).all nameL = false := by
            rw [← List.take_append_drop (k + 1) (cutL (toL p)), List.all_append, h]; rfl
          rw [right_cut, e]; rfl)
        go_wp2_with fail
        refine bodyPost_ret (results_tmp rfl _ _ _) rfl ⟨by rw [HF.out]; rfl, hB1⟩
    · obtain rfl : k = cs.length := by omega
      have HF := hide (show rightL (toL p) = decide ((cs.length : Int) ≤ 16) by
        have h := HA.out
        rw [List.take_of_length_le (by simp), HC.out] at h
        rw [right_cut, h, ← HC.out, Bool.true_and, List.length_map, decide_eq_decide]; omega)
      go_wp2_with fail
      refine bodyPost_ret (results_tmp rfl _ _ _) rfl ⟨by rw [HF.out]; rfl, hB1⟩

/-- Two slices of texts, held against each other. -/
theorem take_same (a b : List ByteArray) (k : Nat) (x y : ByteArray) (hx : a[k]? = some x) (hy : b[k]? = some y) :
    (((a.map toL).take (k + 1)) == ((b.map toL).take (k + 1))) = (((a.map toL).take k == (b.map toL).take k) && (x.toList == y.toList)) := by
  obtain ⟨h1, e1⟩ := List.getElem?_eq_some_iff.1 hx
  obtain ⟨h2, e2⟩ := List.getElem?_eq_some_iff.1 hy
  rw [List.take_succ_eq_append_getElem (by simpa using h1), List.take_succ_eq_append_getElem (by simpa using h2)]
  rw [Bool.eq_iff_iff]
  simp only [beq_iff_eq, Bool.and_eq_true, List.getElem_map, e1, e2, Lib.toList_data]
  constructor
  · intro h
    obtain ⟨e, e'⟩ := List.append_inj' h rfl
    exact ⟨e, by simpa [toL] using e'⟩
  · rintro ⟨e, e'⟩
    rw [e]; simp [toL, e']
end Go.Proofs.YtbklgijndjpgoaaDoor
/-
  Two paths held against each other: plain.
-/
namespace Go.Proofs.YtbklgijndjpgoaaDoor
open Go.RowKit
set_option maxRecDepth 100000

/-- A byte's place. -/
def rankZ (b : Int) : Int := if b = 47 then -1 else b
theorem rankZ_in (b : Nat) (h : b < 256) : -1 ≤ rankZ b ∧ rankZ b ≤ 255 := by unfold rankZ; split <;> omega
def signZ (n : Int) : Int := if n < 0 then -1 else if n = 0 then 0 else 1
/-- Two paths, held against each other. -/
def cmpL : List UInt8 → List UInt8 → Int
  | [], [] => 0
  | [], _ :: _ => -1
  | _ :: _, [] => 1
  | a :: p, b :: q => if a = b then cmpL p q else signZ (rankZ a.toNat - rankZ b.toNat)

theorem cmpL_same : ∀ (k : Nat) (p q : List UInt8), p.take k = q.take k → k ≤ p.length → k ≤ q.length → cmpL p q = cmpL (p.drop k) (q.drop k)
  | 0, p, q, _, _, _ => by simp
  | k + 1, a :: p, b :: q, h, h1, h2 => by
    simp at h h1 h2
    rw [h.1]
    simp only [cmpL, if_true, List.drop_succ_cons]
    exact cmpL_same k p q h.2 h1 h2
  | k + 1, [], _, _, h1, _ => by simp at h1
  | k + 1, _ :: _, [], _, _, h2 => by simp at h2

theorem cmpL_at (k : Nat) (p q : ByteArray) (h : p.data.toList.take k = q.data.toList.take k) (h1 : k < p.size) (h2 : k < q.size) (hne : p[k] ≠ q[k]) :
    cmpL p.data.toList q.data.toList = signZ (rankZ p[k].toNat - rankZ q[k].toNat) := by
  have l1 : k < p.data.toList.length := by simpa using h1
  have l2 : k < q.data.toList.length := by simpa using h2
  rw [cmpL_same k _ _ h (by omega) (by omega), List.drop_eq_getElem_cons l1, List.drop_eq_getElem_cons l2]
  have e1 : p.data.toList[k] = p[k] := rfl
  have e2 : q.data.toList[k] = q[k] := rfl
  rw [e1, e2]
  simp [cmpL, hne]

theorem cmpL_end (p q : ByteArray) (h : p.data.toList.take (min p.size q.size) = q.data.toList.take (min p.size q.size)) :
    cmpL p.data.toList q.data.toList = signZ ((p.size : Int) - q.size) := by
  have s1 : p.data.toList.length = p.size := by simp
  have s2 : q.data.toList.length = q.size := by simp
  rw [cmpL_same _ _ _ h (by rw [s1]; omega) (by rw [s2]; omega)]
  by_cases hl : p.size ≤ q.size
  · rw [Nat.min_eq_left hl, List.drop_of_length_le (by omega)]
    cases hd : q.data.toList.drop p.size with
    | nil =>
      have := congrArg List.length hd
      simp at this
      have : (p.size : Int) - q.size = 0 := by omega
      rw [this]; rfl
    | cons c r =>
      have := congrArg List.length hd
      simp at this
      have h1 : (p.size : Int) - q.size < 0 := by omega
      simp [cmpL, signZ, h1]
  · rw [Nat.min_eq_right (by omega), List.drop_of_length_le (l := q.data.toList) (by omega)]
    cases hd : p.data.toList.drop q.size with
    | nil =>
      have := congrArg List.length hd
      simp at this
      omega
    | cons c r =>
      have h1 : ¬ (p.size : Int) - q.size < 0 := by omega
      have h2 : ¬ (p.size : Int) - q.size = 0 := by omega
      simp [cmpL, signZ, h1, h2]

theorem take_snoc_eq (k : Nat) (p q : ByteArray) (h : p.data.toList.take k = q.data.toList.take k) (h1 : k < p.size) (h2 : k < q.size) (he : p[k] = q[k]) : p.data.toList.take (k + 1) = q.data.toList.take (k + 1) := by
  have l1 : k < p.data.toList.length := by simpa using h1
  have l2 : k < q.data.toList.length := by simpa using h2
  rw [List.take_succ_eq_append_getElem l1, List.take_succ_eq_append_getElem l2, h]
  have e1 : p.data.toList[k] = p[k] := rfl
  have e2 : q.data.toList[k] = q[k] := rfl
  rw [e1, e2, he]

end Go.Proofs.YtbklgijndjpgoaaDoor
/-
  The reference's text: two names, byte by byte.
-/
namespace Go.Proofs.YtbklgijndjpgoaaDoor
open Go.RowKit
set_option maxRecDepth 100000

/-- Two names, byte by byte. -/
def textL : List UInt8 → List UInt8 → Int
  | [], [] => 0
  | [], _ :: _ => -1
  | _ :: _, [] => 1
  | a :: p, b :: q => if a = b then textL p q else signZ ((a.toNat : Int) - (b.toNat : Int))

theorem textL_same : ∀ (k : Nat) (p q : List UInt8), p.take k = q.take k → k ≤ p.length → k ≤ q.length → textL p q = textL (p.drop k) (q.drop k)
  | 0, p, q, _, _, _ => by simp
  | k + 1, a :: p, b :: q, h, h1, h2 => by
    simp at h h1 h2
    rw [h.1]
    simp only [textL, if_true, List.drop_succ_cons]
    exact textL_same k p q h.2 h1 h2
  | k + 1, [], _, _, h1, _ => by simp at h1
  | k + 1, _ :: _, [], _, _, h2 => by simp at h2

theorem textL_at (k : Nat) (p q : ByteArray) (h : p.data.toList.take k = q.data.toList.take k) (h1 : k < p.size) (h2 : k < q.size) (hne : p[k] ≠ q[k]) :
    textL p.data.toList q.data.toList = signZ ((p[k].toNat : Int) - (q[k].toNat : Int)) := by
  have l1 : k < p.data.toList.length := by simpa using h1
  have l2 : k < q.data.toList.length := by simpa using h2
  rw [textL_same k _ _ h (by omega) (by omega), List.drop_eq_getElem_cons l1, List.drop_eq_getElem_cons l2]
  have e1 : p.data.toList[k] = p[k] := rfl
  have e2 : q.data.toList[k] = q[k] := rfl
  rw [e1, e2]
  simp [textL, hne]

theorem textL_end (p q : ByteArray) (h : p.data.toList.take (min p.size q.size) = q.data.toList.take (min p.size q.size)) :
    textL p.data.toList q.data.toList = signZ ((p.size : Int) - q.size) := by
  have s1 : p.data.toList.length = p.size := by simp
  have s2 : q.data.toList.length = q.size := by simp
  rw [textL_same _ _ _ h (by rw [s1]; omega) (by rw [s2]; omega)]
  by_cases hl : p.size ≤ q.size
  · rw [Nat.min_eq_left hl, List.drop_of_length_le (by omega)]
    cases hd : q.data.toList.drop p.size with
    | nil =>
      have := congrArg List.length hd
      simp at this
      have : (p.size : Int) - q.size = 0 := by omega
      rw [this]; rfl
    | cons c r =>
      have := congrArg List.length hd
      simp at this
      have h1 : (p.size : Int) - q.size < 0 := by omega
      simp [textL, signZ, h1]
  · rw [Nat.min_eq_right (by omega), List.drop_of_length_le (l := q.data.toList) (by omega)]
    cases hd : p.data.toList.drop q.size with
    | nil =>
      have := congrArg List.length hd
      simp at this
      omega
    | cons c r =>
      have h1 : ¬ (p.size : Int) - q.size < 0 := by omega
      have h2 : ¬ (p.size : Int) - q.size = 0 := by omega
      simp [textL, signZ, h1, h2]


set_option maxRecDepth 100000 in
set_option maxHeartbeats 2000000 in
theorem text_any (p q : ByteArray) (w : World) (hp : (p.size : Int) ≤ 9223372036854775800) :
    Calls Tryd.prog 55 #[.string p, .string q] w fun e w' => e = .returned (.int .i64 (textL p.data.toList q.data.toList)) ∧ Below w.heap.size w w' := by
  go_enter Tryd.func55, Tryd.ntmps55
  go_wp2_with fail
  go_loopw [5] (fun i wr => ∃ k : Nat, k ≤ p.size ∧ k ≤ q.size ∧ i = .int .i64 k ∧ Hid (p.data.toList.take k = q.data.toList.take k) ∧ Below w.heap.size w wr) (fun i _ => p.size - (intOf i).toNat)
  case atStart => exact ⟨0, Nat.zero_le _, Nat.zero_le _, rfl, hide (by simp), Below.refl _ _⟩
  case round =>
    obtain ⟨k, hk, hk', rfl, HA, hB⟩ := hrel
    by_cases h1 : (k : Int) < p.size
    · by_cases h2 : (k : Int) < q.size
      · have n1 : k < p.size := by omega
        have n2 : k < q.size := by omega
        by_cases he : p[k] = q[k]
        · have hs := hide (take_snoc_eq k p q HA.out n1 n2 he)
          have q1 : ¬ (p[k].toNat : Int) < q[k].toNat := by rw [he]; omega
          have q2 : ¬ (q[k].toNat : Int) < p[k].toNat := by rw [he]; omega
          clear he
          go_wp2_with fail
          go_quiet (fail)
          go_wp2_with fail
          have hB2 := below_drewN hB nq
          generalize wr.drewN nq = wq at hB2 ⊢
          go_quiet (fail)
          go_wp2_with fail
          go_roundw
          case rel => exact ⟨k + 1, by omega, by omega, rfl, hs, below_drewN hB2 _⟩
          case measure => simp [intOf]; omega
        · have hc := textL_at k p q HA.out n1 n2 he
          by_cases q1 : (p[k].toNat : Int) < q[k].toNat
          · have HC := hide (show textL p.data.toList q.data.toList = -1 by rw [hc]; unfold signZ; rw [if_pos (by omega)])
            clear he hc
            go_wp2_with fail
            go_quiet (fail)
            go_wp2_with fail
            refine bodyPost_ret (results_tmp rfl _ _ _) rfl ⟨by rw [HC.out]; rfl, below_drewN hB _⟩
          · have q0 : ¬ (p[k].toNat : Int) = q[k].toNat := fun e => he (UInt8.toNat_inj.1 (by omega))
            have q2 : (q[k].toNat : Int) < p[k].toNat := by omega
            have HC := hide (show textL p.data.toList q.data.toList = 1 by rw [hc]; unfold signZ; rw [if_neg (by omega), if_neg (by omega)])
            clear he hc q0
            go_wp2_with fail
            go_quiet (fail)
            go_wp2_with fail
            have hB2 := below_drewN hB nq
            generalize wr.drewN nq = wq at hB2 ⊢
            go_quiet (fail)
            go_wp2_with fail
            refine bodyPost_ret (results_tmp rfl _ _ _) rfl ⟨by rw [HC.out]; rfl, below_drewN hB2 _⟩
      · have hkq : k = q.size := by omega
        have hc := textL_end p q (by rw [show min p.size q.size = k by omega]; exact HA.out)
        have HC := hide (show textL p.data.toList q.data.toList = 1 by rw [hc]; unfold signZ; rw [if_neg (by omega), if_neg (by omega)])
        have g1 : ¬ (p.size : Int) < q.size := by omega
        have g2 : (q.size : Int) < p.size := by omega
        clear hc
        go_wp2_with fail
        refine bodyPost_ret (results_tmp rfl _ _ _) rfl ⟨by rw [HC.out]; rfl, hB⟩
    · have hkp : k = p.size := by omega
      have hc := textL_end p q (by rw [show min p.size q.size = k by omega]; exact HA.out)
      by_cases g1 : (p.size : Int) < q.size
      · have HC := hide (show textL p.data.toList q.data.toList = -1 by rw [hc]; unfold signZ; rw [if_pos (by omega)])
        clear hc hkp
        go_wp2_with fail
        refine bodyPost_ret (results_tmp rfl _ _ _) rfl ⟨by rw [HC.out]; rfl, hB⟩
      · have HC := hide (show textL p.data.toList q.data.toList = 0 by rw [hc]; unfold signZ; rw [if_neg (by omega), if_pos (by omega)])
        have g2 : ¬ (q.size : Int) < p.size := by omega
        clear hc hkp
        go_wp2_with fail
        refine bodyPost_ret (results_tmp rfl _ _ _) rfl ⟨by rw [HC.out]; rfl, hB⟩
end Go.Proofs.YtbklgijndjpgoaaDoor
/-
  strings.CutPrefix.
-/
namespace Go.Proofs.YtbklgijndjpgoaaDoor
open Go.RowKit
set_option maxRecDepth 100000

/-- Whether a text begins so. -/
def preB (s p : ByteArray) : Bool := p.data.toList.isPrefixOf s.data.toList

theorem pre_some (s p : ByteArray) (h : preB s p = true) : (p.size : Int) ≤ s.size ∧ s.extract 0 p.size = p := by
  have h := List.isPrefixOf_iff_prefix.1 h
  have hl := h.length_le
  simp at hl
  have hl' : p.size ≤ s.size := hl
  refine ⟨by omega, ?_⟩
  apply ByteArray.ext
  apply Array.ext'
  rw [Lib.extract_data]
  obtain ⟨t, ht⟩ := h
  rw [← ht]
  simp
theorem pre_none (s p : ByteArray) (h : preB s p = false) : ((s.extract 0 p.size).toList == p.toList) = false := by
  rw [Bool.eq_false_iff]
  intro e
  have e := eq_of_beq e
  rw [Lib.toList_data, Lib.toList_data] at e
  have : p.data.toList <+: s.data.toList := by
    refine ⟨s.data.toList.drop p.size, ?_⟩
    rw [← e, Lib.extract_data]
    simp
  unfold preB at h
  rw [List.isPrefixOf_iff_prefix.2 this] at h
  cases h

set_option maxHeartbeats 400000 in
theorem hasPre_any (s p : ByteArray) (w : World) :
    Calls Tryd.prog 88 #[.string s, .string p] w fun e w' => e = .returned (.bool (preB s p)) ∧ w' = w := by
  go_enter Tryd.func88, Tryd.ntmps88
  cases h : preB s p with
  | true =>
    obtain ⟨h1, h2⟩ := pre_some s p h
    have h3 : 0 ≤ (p.size : Int) := by omega
    go_wp2
    go_ret
    exact ⟨rfl, rfl⟩
  | false =>
    by_cases h1 : (p.size : Int) ≤ s.size
    · have h2 := pre_none s p h
      have h3 : 0 ≤ (p.size : Int) := by omega
      go_wp2
      go_ret
      exact ⟨rfl, rfl⟩
    · go_wp2
      go_ret
      exact ⟨rfl, rfl⟩

/-- What stands behind a text's beginning. -/
def restP (s p : ByteArray) : ByteArray := if preB s p then s.extract p.size s.size else s
theorem restP_some {s p : ByteArray} (h : preB s p = true) : restP s p = s.extract p.size s.size := if_pos h
theorem restP_none {s p : ByteArray} (h : preB s p = false) : restP s p = s := by unfold restP; rw [h]; rfl

set_option maxHeartbeats 400000 in
theorem slCutPre_any (s p : ByteArray) (w : World) :
    Calls Tryd.prog 87 #[.string s, .string p] w fun e w' => e = .returned (.tuple #[.string (restP s p), .bool (preB s p)]) ∧ w' = w := by
  go_enter Tryd.func87, Tryd.ntmps87
  go_wp2_with fail
  refine (hasPre_any s p _).mono ?_
  rintro e w1 ⟨rfl, rfl⟩
  cases h : preB s p with
  | true =>
    obtain ⟨h1, h2⟩ := pre_some s p h
    have h3 : 0 ≤ (p.size : Int) := by omega
    clear h2
    have HB := hide h
    have HR := hide (restP_some h)
    go_wp2
    refine bodyPost_ret (results_tmp2 rfl _ _ _) rfl ?_
    exact ⟨by rw [HR.out, HB.out]; rfl, rfl⟩
  | false =>
    have HB := hide h
    have HR := hide (restP_none h)
    go_wp2
    refine bodyPost_ret (results_tmp2 rfl _ _ _) rfl ?_
    exact ⟨by rw [HR.out, HB.out]; rfl, rfl⟩

set_option maxHeartbeats 400000 in
theorem cutPre_any (s p : ByteArray) (w : World) :
    Calls Tryd.prog 81 #[.string s, .string p] w fun e w' => e = .returned (.tuple #[.string (restP s p), .bool (preB s p)]) ∧ w' = w := by
  go_enter Tryd.func81, Tryd.ntmps81
  go_wp2_with fail
  refine (slCutPre_any s p _).mono ?_
  rintro e w1 ⟨rfl, rfl⟩
  go_wp2
  refine bodyPost_ret (results_tmp2 rfl _ _ _) rfl ?_
  exact ⟨rfl, rfl⟩

end Go.Proofs.YtbklgijndjpgoaaDoor
/-
  strings.TrimPrefix.
-/
namespace Go.Proofs.YtbklgijndjpgoaaDoor
open Go.RowKit
set_option maxRecDepth 100000

set_option maxHeartbeats 400000 in
theorem slTrimPre_any (s p : ByteArray) (w : World) :
    Calls Tryd.prog 82 #[.string s, .string p] w fun e w' => e = .returned (.string (restP s p)) ∧ w' = w := by
  go_enter Tryd.func82, Tryd.ntmps82
  go_wp2_with fail
  refine (hasPre_any s p _).mono ?_
  rintro e w1 ⟨rfl, rfl⟩
  cases h : preB s p with
  | true =>
    obtain ⟨h1, h2⟩ := pre_some s p h
    have h3 : 0 ≤ (p.size : Int) := by omega
    clear h2
    have HR := hide (restP_some h)
    go_wp2
    go_ret
    exact ⟨by rw [HR.out]; rfl, rfl⟩
  | false =>
    have HR := hide (restP_none h)
    go_wp2
    go_ret
    exact ⟨by rw [HR.out]; rfl, rfl⟩

set_option maxHeartbeats 400000 in
theorem trimPre_any (s p : ByteArray) (w : World) :
    Calls Tryd.prog 72 #[.string s, .string p] w fun e w' => e = .returned (.string (restP s p)) ∧ w' = w := by
  go_enter Tryd.func72, Tryd.ntmps72
  go_wp2_with fail
  refine (slTrimPre_any s p _).mono ?_
  rintro e w1 ⟨rfl, rfl⟩
  go_wp2
  go_ret
  exact ⟨rfl, rfl⟩

end Go.Proofs.YtbklgijndjpgoaaDoor
/-
  paths.behind, Within, Under, Reserved.
-/
namespace Go.Proofs.YtbklgijndjpgoaaDoor
open Go.RowKit
set_option maxRecDepth 100000

/-- What a path has behind another one's names, and whether. -/
def restB (p q : ByteArray) : ByteArray :=
  if !rightL (toL p) || !rightL (toL q) then ⟨#[]⟩ else if q.toList.isEmpty && !p.toList.isEmpty then ⟨#[47]⟩ ++ p else restP p q
def okB (p q : ByteArray) : Bool :=
  if !rightL (toL p) || !rightL (toL q) then false else if q.toList.isEmpty && !p.toList.isEmpty then true else preB p q && ((restP p q).toList.isEmpty || (toL (restP p q)).head? == some 47)

theorem first_byte (s : ByteArray) (h : s.toList.isEmpty = false) : ∃ h0 : 0 < s.size, ((toL s).head? == some 47) = ((s[0].toNat : Int) == 47) := by
  have h1 : s.data.toList ≠ [] := by rw [← Lib.toList_data]; intro e; rw [e] at h; cases h
  have h2 : 0 < s.data.toList.length := List.length_pos_iff.2 h1
  have h0 : 0 < s.size := by simpa using h2
  refine ⟨h0, ?_⟩
  unfold toL
  have e : s.data.toList.head? = some s[0] := by
    rw [List.head?_eq_getElem?, List.getElem?_eq_getElem h2]; rfl
  rw [e]
  by_cases hc : s[0] = 47
  · rw [hc]; rfl
  · have : ¬ (s[0].toNat : Int) = 47 := fun e => hc (UInt8.toNat_inj.1 (by have : (47 : UInt8).toNat = 47 := rfl; omega))
    rw [show ((s[0].toNat : Int) == 47) = false from by simpa using this]
    simpa using hc

set_option maxRecDepth 100000 in
set_option maxHeartbeats 2000000 in
theorem behind_any (p q : ByteArray) (w : World) (hp : (p.size : Int) ≤ 1000000000) (hq : (q.size : Int) ≤ 1000000000) :
    Calls Tryd.prog 71 #[.string p, .string q] w fun e w' => e = .returned (.tuple #[.string (restB p q), .bool (okB p q)]) ∧ Below w.heap.size w w' := by
  go_enter Tryd.func71, Tryd.ntmps71
  cases hr : rightL p.data.toList with
  | false =>
    have e1 := hide (show restB p q = ⟨#[]⟩ by unfold restB toL; rw [hr]; rfl)
    have e2 := hide (show okB p q = false by unfold okB toL; rw [hr]; rfl)
    go_wp2_with fail
    refine (right_any p _ (by omega)).mono ?_
    rintro e w1 ⟨rfl, hB1⟩
    rw [hr]
    go_wp2_with fail
    refine bodyPost_ret (results_tmp2 rfl _ _ _) rfl ⟨by rw [e1.out, e2.out]; rfl, hB1⟩
  | true =>
    go_wp2_with fail
    refine (right_any p _ (by omega)).mono ?_
    rintro e w1 ⟨rfl, hB1⟩
    rw [hr]
    go_wp2_with fail
    refine (right_any q _ (by omega)).mono ?_
    rintro e w2 ⟨rfl, hB2⟩
    have hB := hB1.trans (hB2.mono hB1.size)
    clear hB1 hB2
    cases hs : rightL q.data.toList with
    | false =>
      have e1 := hide (show restB p q = ⟨#[]⟩ by unfold restB toL; rw [hr, hs]; rfl)
      have e2 := hide (show okB p q = false by unfold okB toL; rw [hr, hs]; rfl)
      go_wp2_with fail
      refine bodyPost_ret (results_tmp2 rfl _ _ _) rfl ⟨by rw [e1.out, e2.out]; rfl, hB⟩
    | true =>
      cases hqe : q.toList.isEmpty && !p.toList.isEmpty with
      | true =>
        have e1 := hide (show restB p q = ⟨#[47]⟩ ++ p by unfold restB toL; rw [hr, hs, hqe]; rfl)
        have e2 := hide (show okB p q = true by unfold okB toL; rw [hr, hs, hqe]; rfl)
        rw [Bool.and_eq_true] at hqe
        have q1 := hqe.1
        have q2 : p.toList.isEmpty = false := by simpa using hqe.2
        clear hqe
        go_wp2_with fail
        refine bodyPost_ret (results_tmp2 rfl _ _ _) rfl ⟨by rw [e1.out, e2.out]; rfl, hB⟩
      | false =>
        have e1 : restB p q = restP p q := by unfold restB toL; rw [hr, hs, hqe]; rfl
        have e2 : okB p q = (preB p q && ((restP p q).toList.isEmpty || (toL (restP p q)).head? == some 47)) := by unfold okB; rw [show rightL (toL p) = true from hr, show rightL (toL q) = true from hs, hqe]; rfl
        cases hq0 : q.toList.isEmpty with
        | false =>
          clear hqe
          go_wp2_with fail
          refine (cutPre_any p q _).mono ?_
          rintro e w3 ⟨rfl, rfl⟩
          cases hpre : preB p q with
          | false =>
            have f1 := hide e1
            have f2 := hide (show okB p q = false by rw [e2, hpre]; rfl)
            clear e1 e2
            go_wp2_with fail
            go_quiet (fail)
            go_wp2_with fail
            refine bodyPost_ret (results_tmp2 rfl _ _ _) rfl ⟨by rw [f1.out, f2.out]; rfl, below_drewN hB _⟩
          | true =>
            cases hre : (restP p q).toList.isEmpty with
            | true =>
              have f1 := hide e1
              have f2 := hide (show okB p q = true by rw [e2, hpre, hre]; rfl)
              clear e1 e2
              go_wp2_with fail
              go_quiet (fail)
              go_wp2_with fail
              refine bodyPost_ret (results_tmp2 rfl _ _ _) rfl ⟨by rw [f1.out, f2.out]; rfl, below_drewN hB _⟩
            | false =>
              obtain ⟨g0, g1⟩ := first_byte _ hre
              have f1 := hide e1
              have f2 := hide (show okB p q = (((restP p q)[0].toNat : Int) == 47) by rw [e2, hpre, hre, g1]; rfl)
              have g2 : (0 : Int) < (restP p q).size := by omega
              clear e1 e2 g1
              go_wp2_with fail
              go_quiet (fail)
              go_wp2_with fail
              refine bodyPost_ret (results_tmp2 rfl _ _ _) rfl ⟨by rw [f1.out, f2.out]; rfl, below_drewN hB _⟩
        | true =>
          have hp0 : p.toList.isEmpty = true := by rw [hq0] at hqe; simpa using hqe
          clear hqe
          go_wp2_with fail
          refine (cutPre_any p q _).mono ?_
          rintro e w3 ⟨rfl, rfl⟩
          cases hpre : preB p q with
          | false =>
            have f1 := hide e1
            have f2 := hide (show okB p q = false by rw [e2, hpre]; rfl)
            clear e1 e2
            go_wp2_with fail
            go_quiet (fail)
            go_wp2_with fail
            refine bodyPost_ret (results_tmp2 rfl _ _ _) rfl ⟨by rw [f1.out, f2.out]; rfl, below_drewN hB _⟩
          | true =>
            cases hre : (restP p q).toList.isEmpty with
            | true =>
              have f1 := hide e1
              have f2 := hide (show okB p q = true by rw [e2, hpre, hre]; rfl)
              clear e1 e2
              go_wp2_with fail
              go_quiet (fail)
              go_wp2_with fail
              refine bodyPost_ret (results_tmp2 rfl _ _ _) rfl ⟨by rw [f1.out, f2.out]; rfl, below_drewN hB _⟩
            | false =>
              obtain ⟨g0, g1⟩ := first_byte _ hre
              have f1 := hide e1
              have f2 := hide (show okB p q = (((restP p q)[0].toNat : Int) == 47) by rw [e2, hpre, hre, g1]; rfl)
              have g2 : (0 : Int) < (restP p q).size := by omega
              clear e1 e2 g1
              go_wp2_with fail
              go_quiet (fail)
              go_wp2_with fail
              refine bodyPost_ret (results_tmp2 rfl _ _ _) rfl ⟨by rw [f1.out, f2.out]; rfl, below_drewN hB _⟩
end Go.Proofs.YtbklgijndjpgoaaDoor
/-
  The order of paths is one: plain mathematics.
-/
namespace Go.Proofs.YtbklgijndjpgoaaDoor

theorem signZ_neg (n : Int) : signZ (-n) = - signZ n := by
  unfold signZ
  by_cases h : n < 0
  · have h1 : ¬ -n < 0 := by omega
    have h2 : ¬ -n = 0 := by omega
    rw [if_neg h1, if_neg h2, if_pos h]; rfl
  · by_cases h0 : n = 0
    · subst h0; simp
    · have h1 : -n < 0 := by omega
      rw [if_pos h1, if_neg h, if_neg h0]
theorem signZ_le (n : Int) : signZ n ≤ 0 ↔ n ≤ 0 := by
  unfold signZ
  by_cases h : n < 0
  · rw [if_pos h]; omega
  · by_cases h0 : n = 0
    · rw [if_neg h, if_pos h0]; omega
    · rw [if_neg h, if_neg h0]; omega
theorem rankZ_inj (a b : UInt8) (h : rankZ a.toNat = rankZ b.toNat) : a = b := by
  apply UInt8.toNat_inj.1
  unfold rankZ at h
  split at h <;> split at h <;> omega

theorem cmpL_swap : ∀ p q : List UInt8, cmpL q p = - cmpL p q
  | [], [] => rfl
  | [], _ :: _ => rfl
  | _ :: _, [] => rfl
  | a :: p, b :: q => by
    by_cases h : a = b
    · subst h; simp only [cmpL, if_true]; exact cmpL_swap p q
    · have h' : ¬ b = a := fun e => h e.symm
      simp only [cmpL, h, h', if_false]
      rw [← signZ_neg]; congr 1; omega

theorem signZ_zero (n : Int) (h : signZ n = 0) : n = 0 := by
  unfold signZ at h
  split at h
  · omega
  · split at h
    · assumption
    · omega

theorem cmpL_zero : ∀ p q : List UInt8, cmpL p q = 0 ↔ p = q
  | [], [] => by simp [cmpL]
  | [], _ :: _ => by simp [cmpL]
  | _ :: _, [] => by simp [cmpL]
  | a :: p, b :: q => by
    by_cases h : a = b
    · subst h; simp only [cmpL, if_true]; rw [cmpL_zero p q]; simp
    · simp only [cmpL, h, if_false]
      constructor
      · intro e
        have := signZ_zero _ e
        exact absurd (rankZ_inj a b (by omega)) h
      · intro e; injection e with e1 e2; exact absurd e1 h

theorem cmpL_trans : ∀ p q r : List UInt8, cmpL p q ≤ 0 → cmpL q r ≤ 0 → cmpL p r ≤ 0
  | [], _, [] => fun _ _ => by simp [cmpL]
  | [], _, _ :: _ => fun _ _ => by simp [cmpL]
  | _ :: _, [], _ => fun h _ => by simp [cmpL] at h
  | _ :: _, _ :: _, [] => fun _ h => by simp [cmpL] at h
  | a :: p, b :: q, c :: r => fun h1 h2 => by
    by_cases hab : a = b
    · subst hab
      by_cases hac : a = c
      · subst hac
        simp only [cmpL, if_true] at h1 h2 ⊢
        exact cmpL_trans p q r h1 h2
      · simp only [cmpL, hac, if_false] at h2 ⊢
        exact h2
    · by_cases hbc : b = c
      · subst hbc
        simp only [cmpL, hab, if_false] at h1 ⊢
        exact h1
      · simp only [cmpL, hab, hbc, if_false] at h1 h2
        rw [signZ_le] at h1 h2
        by_cases hac : a = c
        · subst hac
          exact absurd (rankZ_inj a b (by omega)) hab
        · simp only [cmpL, hac, if_false]
          rw [signZ_le]; omega

/-- A beginning of names: nothing behind, or a slash. -/
def edge (x : List UInt8) : Prop := x = [] ∨ ∃ y, x = 47 :: y

/-- What stands between two texts that begin with the same names begins with them, too. -/
theorem cmpL_between : ∀ (t q x z : List UInt8), edge z → cmpL (t ++ x) q ≤ 0 → cmpL q (t ++ z) ≤ 0 → ∃ y, q = t ++ y ∧ edge y
  | [], [], _, _, _, _, _ => ⟨[], rfl, .inl rfl⟩
  | [], c :: q, x, z, hz, _, h2 => by
    rcases hz with rfl | ⟨z', rfl⟩
    · simp [cmpL] at h2
    · by_cases hc : c = 47
      · subst hc; exact ⟨47 :: q, rfl, .inr ⟨q, rfl⟩⟩
      · simp only [List.nil_append, cmpL, hc, if_false] at h2
        rw [signZ_le] at h2
        have h47 : (47 : UInt8).toNat = 47 := rfl
        have hn : ¬ c.toNat = 47 := fun e => hc (UInt8.toNat_inj.1 (by omega))
        unfold rankZ at h2
        rw [if_neg (by omega), h47, if_pos (by rfl)] at h2
        omega
  | a :: t, [], _, _, _, h1, _ => by simp [cmpL] at h1
  | a :: t, c :: q, x, z, hz, h1, h2 => by
    by_cases hac : a = c
    · subst hac
      simp only [List.cons_append, cmpL, if_true] at h1 h2
      obtain ⟨y, rfl, hy⟩ := cmpL_between t q x z hz h1 h2
      exact ⟨y, rfl, hy⟩
    · have hca : ¬ c = a := fun e => hac e.symm
      simp only [List.cons_append, cmpL, hac, hca, if_false] at h1 h2
      rw [signZ_le] at h1 h2
      exact absurd (rankZ_inj a c (by omega)) hac

/-- A path stands ahead of all that is within it. -/
theorem cmpL_first : ∀ (t x : List UInt8), cmpL t (t ++ x) ≤ 0
  | [], [] => by simp [cmpL]
  | [], _ :: _ => by simp [cmpL]
  | a :: t, x => by simp only [List.cons_append, cmpL, if_true]; exact cmpL_first t x
end Go.Proofs.YtbklgijndjpgoaaDoor
/-
  paths.Within in plain words.
-/
namespace Go.Proofs.YtbklgijndjpgoaaDoor
open Go.RowKit
set_option maxRecDepth 100000

/-- Within. -/
def withinL (p t : List UInt8) : Prop := rightL p = true ∧ rightL t = true ∧ (t = [] ∨ ∃ y, p = t ++ y ∧ edge y)

theorem toL_empty (p : ByteArray) : p.toList.isEmpty = true ↔ toL p = [] := by
  rw [Lib.toList_data]; unfold toL; exact List.isEmpty_iff

theorem restP_data (p t : ByteArray) (y : List UInt8) (h : toL p = toL t ++ y) : preB p t = true ∧ toL (restP p t) = y := by
  have hp : preB p t = true := by
    unfold preB
    exact List.isPrefixOf_iff_prefix.2 ⟨y, h.symm⟩
  refine ⟨hp, ?_⟩
  rw [restP_some hp]
  unfold toL at h ⊢
  rw [Lib.extract_data, h, List.take_of_length_le (by rw [← h]; simp)]
  simp

theorem okB_iff (p t : ByteArray) : okB p t = true ↔ withinL (toL p) (toL t) := by
  unfold okB withinL
  cases h1 : rightL (toL p) with
  | false => simp
  | true =>
    cases h2 : rightL (toL t) with
    | false => simp
    | true =>
      simp only [Bool.not_true, Bool.or_self, Bool.false_eq_true, if_false, true_and]
      by_cases ht : toL t = []
      · have he := (toL_empty t).2 ht
        rw [he]
        cases hp : p.toList.isEmpty with
        | false => simp [ht]
        | true =>
          have hp' := (toL_empty p).1 hp
          obtain ⟨a, b⟩ := restP_data p t [] (by rw [hp', ht]; rfl)
          have hr := (toL_empty _).2 b
          simp [ht, a, hr]
      · have he : t.toList.isEmpty = false := by
          cases h : t.toList.isEmpty with
          | false => rfl
          | true => exact absurd ((toL_empty t).1 h) ht
        rw [he]
        simp only [Bool.false_and, Bool.false_eq_true, if_false, ht, false_or]
        constructor
        · intro h
          rw [Bool.and_eq_true] at h
          obtain ⟨a, b⟩ := h
          have hpre : toL t <+: toL p := List.isPrefixOf_iff_prefix.1 a
          obtain ⟨y, hy⟩ := hpre
          obtain ⟨_, hr⟩ := restP_data p t y hy.symm
          refine ⟨y, hy.symm, ?_⟩
          rw [Bool.or_eq_true] at b
          rcases b with b | b
          · left; rw [← hr]; exact (toL_empty _).1 b
          · right
            rw [hr] at b
            cases y with
            | nil => simp at b
            | cons c z => simp at b; exact ⟨z, by rw [b]⟩
        · rintro ⟨y, hy, hedge⟩
          obtain ⟨a, hr⟩ := restP_data p t y hy
          rw [a, hr]
          rcases hedge with rfl | ⟨z, rfl⟩
          · rw [(toL_empty _).2 hr]; rfl
          · simp

/-- PathsTogether's words, over plain lists. -/
theorem together (p q r t : List UInt8) (hq : rightL q = true) (hp : withinL p t) (hr : withinL r t) (h1 : cmpL p q ≤ 0) (h2 : cmpL q r ≤ 0) : withinL q t := by
  obtain ⟨_, ht, hp⟩ := hp
  obtain ⟨_, _, hr⟩ := hr
  refine ⟨hq, ht, ?_⟩
  by_cases h0 : t = []
  · exact .inl h0
  · right
    obtain ⟨x, rfl, _⟩ := hp.resolve_left h0
    obtain ⟨z, rfl, hz⟩ := hr.resolve_left h0
    exact cmpL_between t q x z hz h1 h2

theorem within_first (p t : List UInt8) (hp : withinL p t) : cmpL t p ≤ 0 := by
  rcases hp.2.2 with rfl | ⟨y, rfl, _⟩
  · cases p <;> simp [cmpL]
  · exact cmpL_first t y
end Go.Proofs.YtbklgijndjpgoaaDoor
/-
  What stands between slashes, as a list: putting together again, prefixes, the order name by name.
-/
namespace Go.Proofs.YtbklgijndjpgoaaDoor
open Go.RowKit
set_option maxRecDepth 100000

theorem edge_split (t p : List UInt8) : (∃ y, p = t ++ y ∧ edge y) ↔ splitL t <+: splitL p := by
  constructor
  · rintro ⟨y, rfl, rfl | ⟨z, rfl⟩⟩
    · simp
    · rw [split_append]; exact List.prefix_append _ _
  · rintro ⟨r, hr⟩
    cases r with
    | nil =>
      rw [List.append_nil] at hr
      have := glue_split p
      rw [← hr, glue_split] at this
      exact ⟨[], by simp [this], .inl rfl⟩
    | cons x z =>
      have := glue_split p
      rw [← hr, glue_append _ _ (splitL_ne t) (by simp), glue_split] at this
      exact ⟨_, this.symm, .inr ⟨_, rfl⟩⟩
theorem cut_prefix (t p : List UInt8) : (t = [] ∨ ∃ y, p = t ++ y ∧ edge y) ↔ cutL t <+: cutL p := by
  by_cases ht : t = []
  · subst ht; simp [cut_nil]
  · by_cases hp : p = []
    · subst hp
      have hs := splitL_ne t
      simp [ht, cut_nil, cut_ne t ht, hs]
    · rw [edge_split, cut_ne t ht, cut_ne p hp]; simp [ht]
theorem within_cut (p t : List UInt8) : withinL p t ↔ rightL p = true ∧ rightL t = true ∧ cutL t <+: cutL p := by
  unfold withinL; rw [cut_prefix]
/-- Names, held against each other one by one. -/
def cmpN : List (List UInt8) → List (List UInt8) → Int
  | [], [] => 0
  | [], _ :: _ => -1
  | _ :: _, [] => 1
  | a :: p, b :: q => if textL a b = 0 then cmpN p q else textL a b
theorem cmpN_eq {a b : List UInt8} (p q : List (List UInt8)) (h : textL a b = 0) : cmpN (a :: p) (b :: q) = cmpN p q := by simp only [cmpN, h, if_true]
theorem cmpN_to {a b : List UInt8} {c : Int} (p q : List (List UInt8)) (h : textL a b = c) (hc : c ≠ 0) : cmpN (a :: p) (b :: q) = c := by
  unfold cmpN; rw [h, if_neg hc]
theorem rankZ_other {a : UInt8} (ha : a ≠ 47) : rankZ a.toNat = a.toNat := by
  unfold rankZ
  rw [if_neg]
  intro e
  exact ha (UInt8.toNat_inj.1 (by rw [show (47 : UInt8).toNat = 47 from rfl]; omega))
theorem cmpN_split : ∀ p q : List UInt8, cmpN (splitL p) (splitL q) = cmpL p q
  | [], [] => rfl
  | [], b :: q => by
    by_cases hb : b = 47
    · obtain ⟨h, t, hs⟩ := split_some q
      subst hb
      rw [split_slash, hs]; rfl
    · obtain ⟨h, t, hs⟩ := split_some q
      rw [split_other hb hs]; rfl
  | a :: p, [] => by
    by_cases hb : a = 47
    · obtain ⟨h, t, hs⟩ := split_some p
      subst hb
      rw [split_slash, hs]; rfl
    · obtain ⟨h, t, hs⟩ := split_some p
      rw [split_other hb hs]; rfl
  | a :: p, b :: q => by
    have ih := cmpN_split p q
    obtain ⟨h, t, hs⟩ := split_some p
    obtain ⟨h', t', hs'⟩ := split_some q
    by_cases ha : a = 47 <;> by_cases hb : b = 47
    · subst ha; subst hb
      rw [split_slash, split_slash, cmpN_eq _ _ rfl, ih]; simp [cmpL]
    · subst ha
      rw [split_slash, split_other hb hs', cmpN_to (c := -1) _ _ rfl (by decide)]
      simp only [cmpL, show ¬ (47 : UInt8) = b from fun e => hb e.symm, if_false]
      rw [rankZ_other hb]
      unfold signZ
      rw [show rankZ ((47 : UInt8).toNat : Int) = -1 from rfl, if_pos (by omega)]
    · subst hb
      rw [split_slash, split_other ha hs, cmpN_to (c := 1) _ _ rfl (by decide)]
      simp only [cmpL, ha, if_false]
      rw [rankZ_other ha]
      unfold signZ
      rw [show rankZ ((47 : UInt8).toNat : Int) = -1 from rfl, if_neg (by omega), if_neg (by omega)]
    · rw [split_other ha hs, split_other hb hs']
      rw [hs, hs'] at ih
      by_cases hab : a = b
      · subst hab
        rw [show cmpL (a :: p) (a :: q) = cmpL p q by simp [cmpL], ← ih]
        by_cases hz : textL h h' = 0
        · rw [cmpN_eq _ _ hz, cmpN_eq _ _ (by simp [textL, hz])]
        · rw [cmpN_to _ _ rfl hz, cmpN_to (c := textL h h') _ _ (by simp [textL]) hz]
      · have hn : ¬ a.toNat = b.toNat := fun e => hab (UInt8.toNat_inj.1 e)
        have e1 : textL (a :: h) (b :: h') = signZ ((a.toNat : Int) - b.toNat) := by simp [textL, hab]
        have e2 : cmpL (a :: p) (b :: q) = signZ (rankZ a.toNat - rankZ b.toNat) := by simp [cmpL, hab]
        rw [e2, rankZ_other ha, rankZ_other hb, cmpN_to _ _ e1]
        unfold signZ
        split
        · decide
        · rw [if_neg (by omega)]; decide
theorem cmpN_cut (p q : List UInt8) : cmpN (cutL p) (cutL q) = cmpL p q := by
  by_cases hp : p = [] <;> by_cases hq : q = []
  · subst hp; subst hq; rfl
  · subst hp
    rw [cut_ne q hq, cut_nil]
    cases hs : splitL q with
    | nil => exact absurd hs (splitL_ne q)
    | cons h t => cases q with
      | nil => exact absurd rfl hq
      | cons => rfl
  · subst hq
    rw [cut_ne p hp, cut_nil]
    cases hs : splitL p with
    | nil => exact absurd hs (splitL_ne p)
    | cons h t => cases p with
      | nil => exact absurd rfl hp
      | cons => rfl
  · rw [cut_ne p hp, cut_ne q hq, cmpN_split]
end Go.Proofs.YtbklgijndjpgoaaDoor
/-
  The reference's Cmp: two paths' names, one by one.
-/
namespace Go.Proofs.YtbklgijndjpgoaaDoor
open Go.RowKit
set_option maxRecDepth 100000

/-- Nothing but drawing. -/
def Drew (w w' : World) : Prop := ∃ n, w' = w.drewN n
theorem Drew.refl (w : World) : Drew w w := ⟨0, rfl⟩
theorem Drew.step {w w' : World} (h : Drew w w') (n : Nat) : Drew w (w'.drewN n) := by
  obtain ⟨m, rfl⟩ := h
  exact ⟨m + n, World.drewN_drewN _ _ _⟩
theorem text_out {p q : List UInt8} : textL p q = -1 ∨ textL p q = 0 ∨ textL p q = 1 := by
  induction p generalizing q with
  | nil => cases q <;> simp [textL]
  | cons a p ih =>
    cases q with
    | nil => simp [textL]
    | cons b q =>
      by_cases h : a = b
      · simp only [textL, h, if_true]; exact ih
      · simp only [textL, h, if_false]
        unfold signZ
        split
        · simp
        · split <;> simp

set_option maxHeartbeats 2000000 in
theorem text_quiet (p q : ByteArray) (w : World) (hp : (p.size : Int) ≤ 9223372036854775800) :
    Calls Tryd.prog 55 #[.string p, .string q] w fun e w' => e = .returned (.int .i64 (textL p.data.toList q.data.toList)) ∧ Drew w w' := by
  go_enter Tryd.func55, Tryd.ntmps55
  go_wp2_with fail
  go_loopw [5] (fun i wr => ∃ k : Nat, k ≤ p.size ∧ k ≤ q.size ∧ i = .int .i64 k ∧ Hid (p.data.toList.take k = q.data.toList.take k) ∧ Drew w wr) (fun i _ => p.size - (intOf i).toNat)
  case atStart => exact ⟨0, Nat.zero_le _, Nat.zero_le _, rfl, hide (by simp), Drew.refl _⟩
  case round =>
    obtain ⟨k, hk, hk', rfl, HA, hB⟩ := hrel
    by_cases h1 : (k : Int) < p.size
    · by_cases h2 : (k : Int) < q.size
      · have n1 : k < p.size := by omega
        have n2 : k < q.size := by omega
        by_cases he : p[k] = q[k]
        · have hs := hide (take_snoc_eq k p q HA.out n1 n2 he)
          have q1 : ¬ (p[k].toNat : Int) < q[k].toNat := by rw [he]; omega
          have q2 : ¬ (q[k].toNat : Int) < p[k].toNat := by rw [he]; omega
          clear he
          go_wp2_with fail
          go_quiet (fail)
          go_wp2_with fail
          have hB2 := Drew.step hB nq
          generalize wr.drewN nq = wq at hB2 ⊢
          go_quiet (fail)
          go_wp2_with fail
          go_roundw
          case rel => exact ⟨k + 1, by omega, by omega, rfl, hs, Drew.step hB2 _⟩
          case measure => simp [intOf]; omega
        · have hc := textL_at k p q HA.out n1 n2 he
          by_cases q1 : (p[k].toNat : Int) < q[k].toNat
          · have HC := hide (show textL p.data.toList q.data.toList = -1 by rw [hc]; unfold signZ; rw [if_pos (by omega)])
            clear he hc
            go_wp2_with fail
            go_quiet (fail)
            go_wp2_with fail
            refine bodyPost_ret (results_tmp rfl _ _ _) rfl ⟨by rw [HC.out]; rfl, Drew.step hB _⟩
          · have q0 : ¬ (p[k].toNat : Int) = q[k].toNat := fun e => he (UInt8.toNat_inj.1 (by omega))
            have q2 : (q[k].toNat : Int) < p[k].toNat := by omega
            have HC := hide (show textL p.data.toList q.data.toList = 1 by rw [hc]; unfold signZ; rw [if_neg (by omega), if_neg (by omega)])
            clear he hc q0
            go_wp2_with fail
            go_quiet (fail)
            go_wp2_with fail
            have hB2 := Drew.step hB nq
            generalize wr.drewN nq = wq at hB2 ⊢
            go_quiet (fail)
            go_wp2_with fail
            refine bodyPost_ret (results_tmp rfl _ _ _) rfl ⟨by rw [HC.out]; rfl, Drew.step hB2 _⟩
      · have hkq : k = q.size := by omega
        have hc := textL_end p q (by rw [show min p.size q.size = k by omega]; exact HA.out)
        have HC := hide (show textL p.data.toList q.data.toList = 1 by rw [hc]; unfold signZ; rw [if_neg (by omega), if_neg (by omega)])
        have g1 : ¬ (p.size : Int) < q.size := by omega
        have g2 : (q.size : Int) < p.size := by omega
        clear hc
        go_wp2_with fail
        refine bodyPost_ret (results_tmp rfl _ _ _) rfl ⟨by rw [HC.out]; rfl, hB⟩
    · have hkp : k = p.size := by omega
      have hc := textL_end p q (by rw [show min p.size q.size = k by omega]; exact HA.out)
      by_cases g1 : (p.size : Int) < q.size
      · have HC := hide (show textL p.data.toList q.data.toList = -1 by rw [hc]; unfold signZ; rw [if_pos (by omega)])
        clear hc hkp
        go_wp2_with fail
        refine bodyPost_ret (results_tmp rfl _ _ _) rfl ⟨by rw [HC.out]; rfl, hB⟩
      · have HC := hide (show textL p.data.toList q.data.toList = 0 by rw [hc]; unfold signZ; rw [if_neg (by omega), if_pos (by omega)])
        have g2 : ¬ (q.size : Int) < p.size := by omega
        clear hc hkp
        go_wp2_with fail
        refine bodyPost_ret (results_tmp rfl _ _ _) rfl ⟨by rw [HC.out]; rfl, hB⟩

theorem cmpN_same : ∀ (k : Nat) (p q : List (List UInt8)), (∀ i, i < k → ∀ a b, p[i]? = some a → q[i]? = some b → textL a b = 0) → k ≤ p.length → k ≤ q.length → cmpN p q = cmpN (p.drop k) (q.drop k)
  | 0, p, q, _, _, _ => by simp
  | k + 1, a :: p, b :: q, h, h1, h2 => by
    have h0 := h 0 (by omega) a b rfl rfl
    rw [cmpN_eq _ _ h0, List.drop_succ_cons, List.drop_succ_cons]
    exact cmpN_same k p q (fun i hi x y hx hy => h (i + 1) (by omega) x y (by simpa using hx) (by simpa using hy)) (by simpa using h1) (by simpa using h2)
  | k + 1, [], _, _, h1, _ => by simp at h1
  | k + 1, _ :: _, [], _, _, h2 => by simp at h2
/-- The first k names are the same. -/
def Sames (p q : List (List UInt8)) (k : Nat) : Prop := ∀ i, i < k → ∀ a b, p[i]? = some a → q[i]? = some b → textL a b = 0
theorem Sames.zero (p q : List (List UInt8)) : Sames p q 0 := fun i hi => by omega
theorem Sames.succ {p q : List (List UInt8)} {k : Nat} (h : Sames p q k) {a b : List UInt8} (ha : p[k]? = some a) (hb : q[k]? = some b) (e : textL a b = 0) : Sames p q (k + 1) := fun i hi x y hx hy => by
  by_cases hk : i < k
  · exact h i hk x y hx hy
  · obtain rfl : i = k := by omega
    rw [ha] at hx; rw [hb] at hy
    cases hx; cases hy
    exact e
theorem Sames.at_ {p q : List (List UInt8)} {k : Nat} (h : Sames p q k) {a b : List UInt8} (ha : p[k]? = some a) (hb : q[k]? = some b) (e : textL a b ≠ 0) : cmpN p q = textL a b := by
  obtain ⟨l1, e1⟩ := List.getElem?_eq_some_iff.1 ha
  obtain ⟨l2, e2⟩ := List.getElem?_eq_some_iff.1 hb
  rw [cmpN_same k p q h (by omega) (by omega), List.drop_eq_getElem_cons l1, List.drop_eq_getElem_cons l2, e1, e2, cmpN_to _ _ rfl e]
theorem Sames.end_ {p q : List (List UInt8)} {k : Nat} (h : Sames p q k) (hk : k = min p.length q.length) : cmpN p q = signZ ((p.length : Int) - q.length) := by
  rw [cmpN_same k p q h (by omega) (by omega)]
  by_cases hl : p.length ≤ q.length
  · rw [List.drop_of_length_le (l := p) (by omega)]
    cases hd : q.drop k with
    | nil =>
      have := congrArg List.length hd
      simp at this
      rw [show (p.length : Int) - q.length = 0 by omega]; rfl
    | cons c r =>
      have := congrArg List.length hd
      simp at this
      unfold signZ
      rw [if_pos (by omega)]; rfl
  · rw [List.drop_of_length_le (l := q) (by omega)]
    cases hd : p.drop k with
    | nil =>
      have := congrArg List.length hd
      simp at this
      omega
    | cons c r =>
      unfold signZ
      rw [if_neg (by omega), if_neg (by omega)]; rfl

set_option maxHeartbeats 2000000 in
theorem refCmp_any (p q : ByteArray) (w : World) (hp : (p.size : Int) ≤ 1000000) (hq : (q.size : Int) ≤ 1000000) :
    Calls Tryd.prog 38 #[.string p, .string q] w fun e w' => e = .returned (.int .i64 (cmpL (toL p) (toL q))) ∧ Below w.heap.size w w' := by
  go_enter Tryd.func38, Tryd.ntmps38
  go_wp2_with fail
  refine (refCut_any p w hp).mono ?_
  rintro e w1 ⟨A, c, cs, rfl, hcs, _, hR1, hB1⟩
  go_wp2_with fail
  refine (refCut_any q w1 hq).mono ?_
  rintro e w2 ⟨B, d, ds, rfl, hds, _, hS, hB2⟩
  have hB := hB1.trans (hB2.mono hB1.size)
  have hR := (hR1.below hB2 (Nat.le_refl _)).mono hB2.size
  have HM := hide (show cmpL (toL p) (toL q) = cmpN (cs.map toL) (ds.map toL) by rw [hcs, hds, cmpN_cut])
  have hn : (cs.length : Int) ≤ 1000001 := by
    have := cut_count (toL p)
    rw [← hcs] at this
    simp [toL] at this
    omega
  have hm : (ds.length : Int) ≤ 1000001 := by
    have := cut_count (toL q)
    rw [← hds] at this
    simp [toL] at this
    omega
  have HP : ∀ (k : Nat) (x : ByteArray), cs[k]? = some x → (x.size : Int) ≤ 9223372036854775800 := fun k x hx => by have := piece_size hcs hx; simp [toL] at this; omega
  have HQ := hide HP
  clear HP hcs hds hB1 hB2 hR1
  go_wp2_with fail
  go_loopw [7] (fun i wr => ∃ k : Nat, k ≤ cs.length ∧ k ≤ ds.length ∧ i = .int .i64 k ∧ Hid (Sames (cs.map toL) (ds.map toL) k) ∧ Drew w2 wr) (fun i _ => cs.length - (intOf i).toNat)
  case atStart => exact ⟨0, Nat.zero_le _, Nat.zero_le _, rfl, hide (Sames.zero _ _), Drew.refl _⟩
  case round =>
    obtain ⟨k, hk, hk', rfl, HA, hD⟩ := hrel
    have hBr : Below w.heap.size w wr := by obtain ⟨n, rfl⟩ := hD; exact below_drewN hB n
    have hRr : Rd wr w2.heap.size A cs := by obtain ⟨n, rfl⟩ := hD; exact hR
    have hSr : Rd wr w2.heap.size B ds := by obtain ⟨n, rfl⟩ := hD; exact hS
    clear hR hS hB
    by_cases l1 : (k : Int) < cs.length
    · by_cases l2 : (k : Int) < ds.length
      · have n1 : k < cs.length := by omega
        have n2 : k < ds.length := by omega
        have g1 := List.getElem?_eq_getElem n1
        have g2 := List.getElem?_eq_getElem n2
        obtain ⟨ad, rfl, _, hc⟩ := hRr k _ g1
        obtain ⟨bd, rfl, _, hd⟩ := hSr k _ g2
        have G1 := hide (show (cs.map toL)[k]? = some (toL cs[k]) by rw [List.getElem?_map, g1]; rfl)
        have G2 := hide (show (ds.map toL)[k]? = some (toL ds[k]) by rw [List.getElem?_map, g2]; rfl)
        have hz := HQ.out k _ g1
        clear g1 g2
        by_cases ht : textL cs[k].data.toList ds[k].data.toList = 0
        · have HS := hide (HA.out.succ G1.out G2.out ht)
          go_wp2_with fail
          go_quiet ((go_at_call 55; exact Calls.quiet_of (text_quiet _ _ _ hz)))
          have hD2 := hD.step nq
          clear hD hc hd hBr hRr hSr
          generalize wr.drewN nq = wq at hD2 ⊢
          go_wp2_with fail
          go_roundw
          case rel => exact ⟨k + 1, by omega, by omega, rfl, HS, hD2⟩
          case measure => simp [intOf]; omega
        · have HE := hide (show cmpL (toL p) (toL q) = textL cs[k].data.toList ds[k].data.toList by rw [HM.out]; exact HA.out.at_ G1.out G2.out ht)
          have hne : (textL cs[k].data.toList ds[k].data.toList != 0) = true := by simpa [bne_iff_ne] using ht
          go_wp2_with fail
          go_quiet ((go_at_call 55; exact Calls.quiet_of (text_quiet _ _ _ hz)))
          go_wp2_with fail
          refine bodyPost_ret (results_tmp rfl _ _ _) rfl ⟨by rw [HE.out]; rfl, below_drewN hBr _⟩
      · have hE := HA.out.end_ (by simp; omega)
        have HE := hide (show cmpL (toL p) (toL q) = 1 by
          rw [HM.out, hE]; simp only [List.length_map]; unfold signZ; rw [if_neg (by omega), if_neg (by omega)])
        have g1 : ¬ (cs.length : Int) < ds.length := by omega
        have g2 : (ds.length : Int) < cs.length := by omega
        clear hE
        go_wp2_with fail
        refine bodyPost_ret (results_tmp rfl _ _ _) rfl ⟨by rw [HE.out]; rfl, hBr⟩
    · have hE := HA.out.end_ (by simp; omega)
      by_cases g1 : (cs.length : Int) < ds.length
      · have HE := hide (show cmpL (toL p) (toL q) = -1 by
          rw [HM.out, hE]; simp only [List.length_map]; unfold signZ; rw [if_pos (by omega)])
        clear hE
        go_wp2_with fail
        refine bodyPost_ret (results_tmp rfl _ _ _) rfl ⟨by rw [HE.out]; rfl, hBr⟩
      · have HE := hide (show cmpL (toL p) (toL q) = 0 by
          rw [HM.out, hE]; simp only [List.length_map]; unfold signZ; rw [if_neg (by omega), if_pos (by omega)])
        have g2 : ¬ (ds.length : Int) < cs.length := by omega
        clear hE
        go_wp2_with fail
        refine bodyPost_ret (results_tmp rfl _ _ _) rfl ⟨by rw [HE.out]; rfl, hBr⟩
end Go.Proofs.YtbklgijndjpgoaaDoor
