/-
  Texts that belong together: RefCut, PathRefName, RefRight, RefGlue.
-/
import Derived.Test.YthlalmehcpionaaDoorPathB
import Derived.OwnWalk
import Derived.IntWalk
import Derived.RangeFuncBox
import Derived.StillTailTactics
import Derived.Test.YthlalmehcpionaaDoorPathA
import Derived.Deep.DeepCutAuto
import Derived.Deep.QuietTactic
import Derived.BigQuiet
/-
  The reference's Cut; slices of texts that are read.
-/
namespace Go.Proofs.YthlalmehcpionaaDoor
open Go.RowKit
set_option maxRecDepth 100000

/-- Texts that lie at an address, one behind the other, below block B. -/
def Rd (w : World) (B : Nat) (A : Option Addr) (l : List ByteArray) : Prop :=
  ∀ k x, l[k]? = some x → ∃ ad : Addr, A = some ad ∧ ad.block < B ∧ w.cell? (ad.add k) = some (.string x)
theorem Rd.below {w w' : World} {B B' : Nat} {A : Option Addr} {l : List ByteArray} (h : Rd w B A l) (hb : Below B' w w') (hB : B ≤ B') : Rd w' B A l := fun k x hx => by
  obtain ⟨ad, e, hlt, hc⟩ := h k x hx
  exact ⟨ad, e, hlt, (hb.cell (by rw [add_block]; omega)).trans hc⟩
theorem Rd.mono {w : World} {B B' : Nat} {A : Option Addr} {l : List ByteArray} (h : Rd w B A l) (hB : B ≤ B') : Rd w B' A l := fun k x hx => by
  obtain ⟨ad, e, hlt, hc⟩ := h k x hx
  exact ⟨ad, e, by omega, hc⟩
theorem Rd.nil (w : World) (B : Nat) (A : Option Addr) : Rd w B A [] := fun k x hx => by simp at hx
theorem Rd.own {w : World} {base n c : Nat} {e : TypeId} {A : Option Addr} {l : List ByteArray} (h : w.ownsRow base e 1 (.slice A n c) n (l.map Value.string)) : Rd w w.heap.size A l := fun k x hx => by
  rcases h.2 with ⟨hv, h0⟩ | ⟨g, cap, cur, hv, _, hg, _⟩
  · have := h.1
    rw [h0] at this
    simp at this
    subst this
    simp at hx
  · injection hv with hA
    subst hA
    refine ⟨_, rfl, (Array.getElem?_eq_some_iff.1 hg).1, h.cells (g := g) rfl k _ ?_⟩
    rw [List.getElem?_map, hx]; rfl
theorem toL_app (s t : ByteArray) : toL (s ++ t) = toL s ++ toL t := by simp [toL]
theorem toL_ext (s : ByteArray) (i j : Nat) : toL (s.extract i j) = ((toL s).drop i).take (j - i) := Lib.extract_data s i j
/-- A call's answer: a slice of these texts. -/
def Cuts (w0 : World) (l : List (List UInt8)) (e : Ending) (w' : World) : Prop :=
  ∃ A c, ∃ cs : List ByteArray, e = .returned (.slice A cs.length c) ∧ cs.map toL = l ∧ cs.length ≤ c ∧ Rd w' w'.heap.size A cs ∧ Below w0.heap.size w0 w'

theorem info_string : (Tryd.prog.info? 9).map (fun i => (i.zero, i.size, i.bytes)) = some (some (.string ⟨#[]⟩), 1, 16) := by kernel_rfl

set_option maxHeartbeats 2000000 in
theorem refCut_any (p : ByteArray) (w : World) (hp : (p.size : Int) ≤ 1000000) :
    Calls Tryd.prog 34 #[.string p] w (Cuts w (cutL (toL p))) := by
  obtain ⟨i0, hi, hz0, hz1, hz2⟩ := info_parts info_string
  cases he : p.toList.isEmpty with
  | true =>
    have HC := hide (show cutL (toL p) = [] by unfold cutL toL; rw [← Lib.toList_data, he]; rfl)
    go_enter Tryd.func34, Tryd.ntmps34
    go_wp2_with fail
    refine bodyPost_ret (results_tmp rfl _ _ _) rfl ⟨none, 0, [], rfl, HC.out.symm, by simp, Rd.nil _ _ _, Below.refl _ _⟩
  | false =>
    have HC := hide (show cutL (toL p) = splitL (toL p) by unfold cutL toL; rw [← Lib.toList_data, he]; rfl)
    go_enter Tryd.func34, Tryd.ntmps34
    go_wp2_with fail
    go_loopw [3, 4] (fun v i wr => ∃ (k : Nat) (a : List ByteArray) (x : ByteArray) (g cap : Nat), k ≤ p.size ∧ i = .int .i64 k ∧ v = .slice (some ⟨g, 0, none⟩) (a.length + 1) cap ∧ a.length + 1 ≤ cap ∧ a.length ≤ k ∧ x.size ≤ k ∧ Hid ((a ++ [x]).map toL = splitL ((toL p).take k)) ∧
        wr.ownsRow w.heap.size 9 1 v (a.length + 1) (a.map Value.string ++ [.string x]) ∧ Below w.heap.size w wr) (fun _ i _ => p.size - (intOf i).toNat)
    case atStart => exact ⟨0, [], ⟨#[]⟩, _, 1, Nat.zero_le _, rfl, rfl, by simp, by simp, Nat.zero_le _, hide (by simp [splitL, toL]), World.ownsRow_lit w _ _ (Nat.le_refl _) (by decide) rfl, (Below.refl _ _).alloc (Nat.le_refl _) _⟩
    case round =>
      obtain ⟨k, a, x, g, cap, hk, rfl, rfl, hcap, hak, hxk, HS, hown, hB⟩ := hrel
      by_cases hlt : (k : Int) < p.size
      · have hlt' : k < p.size := by omega
        have hts : (toL p).take (k + 1) = (toL p).take k ++ [p[k]] := by
          rw [List.take_succ_eq_append_getElem (by simpa [toL] using hlt')]; rfl
        obtain ⟨a', x', s0, s1, s2⟩ := splitL_snoc ((toL p).take k)
        by_cases hc : p[k] = 47
        · have HN := hide (show ((a ++ [x]) ++ [(⟨#[]⟩ : ByteArray)]).map toL = splitL ((toL p).take (k + 1)) by
            rw [hts, hc, s1, ← s0, ← HS.out, List.map_append]; rfl)
          have hb : ((p[k].toNat : Int) == 47) = true := by rw [hc]; rfl
          clear s0 s1 s2 hts hc
          have HZ := hB.size
          go_wp2_with (at_builtin; refine wpList_append_own _ rfl _ _ 63 rfl w.heap.size 9 i0 (.string ⟨#[]⟩) 1 16 Tryd.underlying63 hi hz0 hz1 hz2 rfl (by decide) _ _ _ rfl (hown.alloc _) ⟨wr.heap.size, 0, none⟩ 1 1 [.string ⟨#[]⟩] rfl rfl (cell_one_new _ _ _) (by simp [Value.oneCell']) (by unfold maxLen; omega) (by omega) (by simp; omega) ?_)
          intro v' w' hown' hgrow hnil
          obtain ⟨g', cap', rfl⟩ := ownsRow_succ hown'
          go_wp2_with fail
          go_roundw
          case rel =>
            refine ⟨k + 1, a ++ [x], ⟨#[]⟩, g', cap', by omega, rfl, by simp, ?_, by simp; omega, Nat.zero_le _, HN, by simpa using hown', (hB.alloc hB.size _).grown hgrow (by simp; omega) (fun r e => (hown.lt r e).1)⟩
            have := ownsRow_cap hown'
            simpa using this
          case measure => simp [intOf]; omega
        · have HN := hide (show (a ++ [x ++ p.extract k (k + 1)]).map toL = splitL ((toL p).take (k + 1)) by
            have h0 := HS.out
            rw [s0, List.map_append] at h0
            obtain ⟨e1, e2⟩ := List.append_inj' h0 rfl
            have e2 : toL x = x' := by simpa using e2
            rw [hts, s2 _ (by simpa using hc), List.map_append, e1, ← e2]
            rw [List.map_cons, List.map_nil, toL_app, toL_ext, List.drop_eq_getElem_cons (by simpa [toL] using hlt')]
            rw [show k + 1 - k = 1 by omega]
            rfl)
          have hb : ((p[k].toNat : Int) == 47) = false := by
            have : ¬ (p[k].toNat : Int) = 47 := fun e => hc (UInt8.toNat_inj.1 (by have : (47 : UInt8).toNat = 47 := rfl; omega))
            simpa using this
          clear s0 s1 s2 hts hc
          go_wp2_with fail
          have hc1 : wr.cell? ⟨g, a.length, none⟩ = some (.string x) := by rw [hown.cellAt _ (by omega)]; simp
          have hf1 := hown.frozenAt a.length
          have w1 : IntKind.i64.wrap ((a.length : Nat) : Int) = a.length := IntWalk.i64_in _ (by omega)
          have w2 : IntKind.i64.wrap ((k : Int) + 1) = (k : Int) + 1 := IntWalk.i64_in _ (by omega)
          have w3 : ((k : Int) + 1).toNat = k + 1 := by omega
          have w4 : (k : Int) + 1 ≤ p.size := by omega
          have w5 : ((a.length : Nat) : Int) < ((a.length : Nat) : Int) + 1 := by omega
          have w8 : ¬ 9223372036854775807 < x.size + (min (k + 1) p.size - k) := by omega
          have w6 : (k : Int) ≤ (k : Int) + 1 := by omega
          have w7 : (0 : Int) ≤ (k : Int) + 1 := by omega
          go_still_tail 17, (by kernel_rfl)
          change wpList _ _ _ _ _ wr.drew
          have HB2 := hB.drew
          have HO2 := hown.drew
          clear hB hown hc1 w1 w2 w3 w4 w5 w6 w7 w8
          generalize wr.drew = wq at HB2 HO2
          have hf2 := HO2.frozenAt a.length
          have hc2 : wq.cell? ⟨g, a.length, none⟩ = some (.string x) := by rw [HO2.cellAt _ (by omega)]; simp
          go_wp2_with fail
          go_roundw
          case rel =>
            obtain ⟨ho, hg⟩ := HO2.stored a.length (.string (x ++ p.extract k (k + 1)))
            refine ⟨k + 1, a, x ++ p.extract k (k + 1), g, cap, by omega, rfl, rfl, hcap, by omega, by simp; omega, HN, ?_, HB2.grown hg HB2.size (fun r e => by cases e; exact (HO2.lt g rfl).1)⟩
            rw [show (a.map Value.string ++ [Value.string x]).set a.length (Value.string (x ++ p.extract k (k + 1))) = a.map Value.string ++ [Value.string (x ++ p.extract k (k + 1))] by simp] at ho
            exact ho
          case measure => simp [intOf]; omega
      · obtain rfl : k = p.size := by omega
        have HT := hide (show (a ++ [x]).map toL = cutL (toL p) by
          rw [HC.out, HS.out, List.take_of_length_le (by simp [toL])])
        go_wp2_with fail
        refine bodyPost_ret (results_tmp rfl _ _ _) rfl ⟨some ⟨g, 0, none⟩, cap, a ++ [x], by simp, HT.out, by simpa using hcap, Rd.own (n := (a ++ [x]).length) (by simpa using hown), hB⟩
end Go.Proofs.YthlalmehcpionaaDoor
/-
  The reference's Name.
-/
namespace Go.Proofs.YthlalmehcpionaaDoor
open Go.RowKit
set_option maxRecDepth 100000

set_option maxRecDepth 100000 in
set_option maxHeartbeats 2000000 in
theorem refName_any (s : ByteArray) (w : World) (hs : (s.size : Int) ≤ 9223372036854775800) :
    Calls Tryd.prog 35 #[.string s] w fun e w' => e = .returned (.bool (nameL s.data.toList)) ∧ w' = w := by
  go_enter Tryd.func35, Tryd.ntmps35
  go_wp2_with fail
  go_loop [3] (fun i => ∃ k : Nat, k ≤ s.size ∧ i = .int .i64 k ∧ Hid ((s.data.toList.take k).all (fun c => letter c.toNat) = true)) (fun i => s.size - (intOf i).toNat)
  case atStart => exact ⟨0, Nat.zero_le _, rfl, by simp [Hid]⟩
  case round =>
    obtain ⟨k, hk, rfl, HA⟩ := hrel
    by_cases hlt : (k : Int) < s.size
    · have hlt' : k < s.size := by omega
      have hsn := nameL_snoc s k hlt'
      rw [HA.out, Bool.true_and] at hsn
      have HS := hide hsn
      clear hsn
      go_upto_region 5 with fail
      go_cut [4, 48] (fun _ s48 wx => s48 = .bool (!letter s[k].toNat) ∧ wx = w)
      case first =>
        by_cases e46 : (s[k].toNat : Int) = 46
        · have HL := hide (show letter (s[k].toNat : Int) = true by rw [e46]; rfl)
          go_wp2_with fail
          go_meet
          exact ⟨by rw [HL.out]; rfl, rfl⟩
        by_cases e95 : (s[k].toNat : Int) = 95
        · have HL := hide (show letter (s[k].toNat : Int) = true by rw [e95]; rfl)
          go_wp2_with fail
          go_meet
          exact ⟨by rw [HL.out]; rfl, rfl⟩
        by_cases e45 : (s[k].toNat : Int) = 45
        · have HL := hide (show letter (s[k].toNat : Int) = true by rw [e45]; rfl)
          go_wp2_with fail
          go_meet
          exact ⟨by rw [HL.out]; rfl, rfl⟩
        have d46 : ((s[k].toNat : Int) == 46) = false := beq_eq_false_iff_ne.2 e46
        have d95 : ((s[k].toNat : Int) == 95) = false := beq_eq_false_iff_ne.2 e95
        have d45 : ((s[k].toNat : Int) == 45) = false := beq_eq_false_iff_ne.2 e45
        clear e46 e95 e45
        by_cases r0 : (s[k].toNat : Int) < 48
        · have HL := hide (show letter (s[k].toNat : Int) = false by unfold letter; rw [d46, d95, d45]; simp; omega)
          have f0 : ¬ 97 ≤ (s[k].toNat : Int) := by omega
          have f1 : ¬ 65 ≤ (s[k].toNat : Int) := by omega
          have f2 : ¬ 48 ≤ (s[k].toNat : Int) := by omega
          clear r0
          go_wp2_with fail
          go_meet
          exact ⟨by rw [HL.out]; rfl, rfl⟩
        by_cases r1 : 48 ≤ (s[k].toNat : Int) ∧ (s[k].toNat : Int) ≤ 57
        · have HL := hide (show letter (s[k].toNat : Int) = true by unfold letter; rw [d46, d95, d45]; simp; omega)
          have f0 : ¬ 97 ≤ (s[k].toNat : Int) := by omega
          have f1 : ¬ 65 ≤ (s[k].toNat : Int) := by omega
          have f2 : 48 ≤ (s[k].toNat : Int) := by omega
          have f3 : (s[k].toNat : Int) ≤ 57 := by omega
          clear r1
          go_wp2_with fail
          go_meet
          exact ⟨by rw [HL.out]; rfl, rfl⟩
        by_cases r2 : 57 < (s[k].toNat : Int) ∧ (s[k].toNat : Int) < 65
        · have HL := hide (show letter (s[k].toNat : Int) = false by unfold letter; rw [d46, d95, d45]; simp; omega)
          have f0 : ¬ 97 ≤ (s[k].toNat : Int) := by omega
          have f1 : ¬ 65 ≤ (s[k].toNat : Int) := by omega
          have f2 : 48 ≤ (s[k].toNat : Int) := by omega
          have f3 : ¬ (s[k].toNat : Int) ≤ 57 := by omega
          clear r2
          go_wp2_with fail
          go_meet
          exact ⟨by rw [HL.out]; rfl, rfl⟩
        by_cases r3 : 65 ≤ (s[k].toNat : Int) ∧ (s[k].toNat : Int) ≤ 90
        · have HL := hide (show letter (s[k].toNat : Int) = true by unfold letter; rw [d46, d95, d45]; simp; omega)
          have f0 : ¬ 97 ≤ (s[k].toNat : Int) := by omega
          have f1 : 65 ≤ (s[k].toNat : Int) := by omega
          have f2 : (s[k].toNat : Int) ≤ 90 := by omega
          clear r3
          go_wp2_with fail
          go_meet
          exact ⟨by rw [HL.out]; rfl, rfl⟩
        by_cases r4 : 90 < (s[k].toNat : Int) ∧ (s[k].toNat : Int) < 97
        · have HL := hide (show letter (s[k].toNat : Int) = false by unfold letter; rw [d46, d95, d45]; simp; omega)
          have f0 : ¬ 97 ≤ (s[k].toNat : Int) := by omega
          have f1 : 65 ≤ (s[k].toNat : Int) := by omega
          have f2 : ¬ (s[k].toNat : Int) ≤ 90 := by omega
          have f3 : 48 ≤ (s[k].toNat : Int) := by omega
          have f4 : ¬ (s[k].toNat : Int) ≤ 57 := by omega
          clear r4
          go_wp2_with fail
          go_meet
          exact ⟨by rw [HL.out]; rfl, rfl⟩
        by_cases r5 : 97 ≤ (s[k].toNat : Int) ∧ (s[k].toNat : Int) ≤ 122
        · have HL := hide (show letter (s[k].toNat : Int) = true by unfold letter; rw [d46, d95, d45]; simp; omega)
          have f0 : 97 ≤ (s[k].toNat : Int) := by omega
          have f1 : (s[k].toNat : Int) ≤ 122 := by omega
          clear r5
          go_wp2_with fail
          go_meet
          exact ⟨by rw [HL.out]; rfl, rfl⟩
        by_cases r6 : 122 < (s[k].toNat : Int)
        · have HL := hide (show letter (s[k].toNat : Int) = false by unfold letter; rw [d46, d95, d45]; simp; omega)
          have f0 : 97 ≤ (s[k].toNat : Int) := by omega
          have f1 : ¬ (s[k].toNat : Int) ≤ 122 := by omega
          have f2 : 65 ≤ (s[k].toNat : Int) := by omega
          have f3 : ¬ (s[k].toNat : Int) ≤ 90 := by omega
          have f4 : 48 ≤ (s[k].toNat : Int) := by omega
          have f5 : ¬ (s[k].toNat : Int) ≤ 57 := by omega
          clear r6
          go_wp2_with fail
          go_meet
          exact ⟨by rw [HL.out]; rfl, rfl⟩
        omega
      case rest =>
        obtain ⟨rfl, rfl⟩ := hcut
        cases hc : letter s[k].toNat with
        | true =>
          go_wp2_with fail
          go_round
          case rel => exact ⟨k + 1, by omega, rfl, hide (by rw [HS.out, hc])⟩
          case measure => simp [intOf]; omega
        | false =>
          have HF := hide (show nameL s.data.toList = false by
            have h := HS.out
            rw [hc] at h
            have e : s.data.toList.all (fun c => letter c.toNat) = false := by
              rw [← List.take_append_drop (k + 1) s.data.toList, List.all_append, h]; rfl
            unfold nameL
            rw [e, Bool.and_false])
          go_wp2_with fail
          refine bodyPost_ret (results_tmp rfl _ _ _) rfl ⟨by rw [HF.out]; rfl, rfl⟩
    · obtain rfl : k = s.size := by omega
      have hall : s.data.toList.all (fun c => letter c.toNat) = true := by
        have h := HA.out
        rw [List.take_of_length_le (by simp)] at h
        exact h
      have hN : nameL s.data.toList = (!s.data.toList.isEmpty && decide (s.data.toList.length ≤ 12) && !(s.data.toList == [46]) && !(s.data.toList == [46, 46])) := by unfold nameL; rw [hall, Bool.and_true]
      rw [← Lib.toList_data] at hN
      have hsz : s.toList.length = s.size := by rw [Lib.toList_data]; simp
      rw [hsz] at hN
      clear hall HA hlt hk
      by_cases z1 : (1 : Int) ≤ s.size
      · have he : s.toList.isEmpty = false := by
          cases h : s.toList.isEmpty with
          | false => rfl
          | true => rw [List.isEmpty_iff.1 h] at hsz; simp at hsz; omega
        rw [he] at hN
        by_cases z2 : (s.size : Int) ≤ 12
        · have hd : decide (s.size ≤ 12) = true := by simp; omega
          rw [hd] at hN
          have HN := hide hN
          clear hN hsz he hd
          cases h46 : (s.toList == [46]) with
          | true =>
            go_wp2_with fail
            refine bodyPost_ret (results_tmp rfl _ _ _) rfl ⟨by rw [Lib.toList_data] at HN h46; rw [HN.out, h46]; rfl, rfl⟩
          | false =>
            go_wp2_with fail
            refine bodyPost_ret (results_tmp rfl _ _ _) rfl ⟨by rw [Lib.toList_data] at HN h46; rw [HN.out, h46, ← Lib.toList_data]; rfl, rfl⟩
        · have hd : decide (s.size ≤ 12) = false := by simp; omega
          rw [hd] at hN
          have HN := hide hN
          clear hN hsz he hd
          go_wp2_with fail
          refine bodyPost_ret (results_tmp rfl _ _ _) rfl ⟨by rw [Lib.toList_data] at HN; rw [HN.out]; rfl, rfl⟩
      · have he : s.toList.isEmpty = true := by
          rw [List.isEmpty_iff]
          apply List.eq_nil_of_length_eq_zero
          omega
        rw [he] at hN
        have HN := hide hN
        clear hN hsz he
        go_wp2_with fail
        refine bodyPost_ret (results_tmp rfl _ _ _) rfl ⟨by rw [Lib.toList_data] at HN; rw [HN.out]; rfl, rfl⟩
end Go.Proofs.YthlalmehcpionaaDoor
/-
  The reference's Right and Same.
-/
namespace Go.Proofs.YthlalmehcpionaaDoor
open Go.RowKit
set_option maxRecDepth 100000

theorem all_take_succ (cs : List ByteArray) (k : Nat) (x : ByteArray) (hx : cs[k]? = some x) :
    ((cs.map toL).take (k + 1)).all nameL = (((cs.map toL).take k).all nameL && nameL (toL x)) := by
  obtain ⟨hlt, he⟩ := List.getElem?_eq_some_iff.1 hx
  rw [List.take_succ_eq_append_getElem (by simpa using hlt), List.all_append]
  simp [he]

theorem split_len : ∀ (l : List UInt8) (x : List UInt8), x ∈ splitL l → x.length ≤ l.length
  | [], x, h => by simp [splitL] at h; simp [h]
  | c :: r, x, h => by
    have ih := split_len r
    obtain ⟨a, t, hs⟩ := split_some r
    by_cases hc : c = 47
    · subst hc
      rw [split_slash] at h
      rcases List.mem_cons.1 h with rfl | h
      · simp
      · have := ih x h; simp; omega
    · rw [split_other hc hs] at h
      rw [hs] at ih
      rcases List.mem_cons.1 h with rfl | h
      · have := ih a (by simp); simp; omega
      · have := ih x (by simp [h]); simp; omega
theorem cut_len (l x : List UInt8) (h : x ∈ cutL l) : x.length ≤ l.length := by
  unfold cutL at h
  split at h
  · simp at h
  · exact split_len l x h
theorem split_count : ∀ l : List UInt8, (splitL l).length ≤ l.length + 1
  | [] => by simp [splitL]
  | c :: r => by
    have ih := split_count r
    obtain ⟨a, t, hs⟩ := split_some r
    by_cases hc : c = 47
    · subst hc; rw [split_slash]; simp; omega
    · rw [split_other hc hs]; rw [hs] at ih; simp at ih ⊢; omega
theorem cut_count (l : List UInt8) : (cutL l).length ≤ l.length + 1 := by
  unfold cutL
  split
  · simp
  · exact split_count l
theorem piece_size {cs : List ByteArray} {l : List UInt8} (h : cs.map toL = cutL l) {k : Nat} {x : ByteArray} (hx : cs[k]? = some x) : x.size ≤ l.length := by
  have := cut_len l (toL x) (by rw [← h]; exact List.mem_map.2 ⟨x, List.mem_of_getElem? hx, rfl⟩)
  simpa [toL] using this

set_option maxHeartbeats 2000000 in
theorem refRight_any (p : ByteArray) (w : World) (hp : (p.size : Int) ≤ 1000000) :
    Calls Tryd.prog 19 #[.string p] w fun e w' => e = .returned (.bool (rightL (toL p))) ∧ Below w.heap.size w w' := by
  go_enter Tryd.func19, Tryd.ntmps19
  go_wp2_with fail
  refine (refCut_any p w hp).mono ?_
  rintro e w1 ⟨A, c, cs, rfl, hcs, hcap, hR, hB1⟩
  have HC := hide hcs
  have hn : (cs.length : Int) ≤ 1000001 := by
    have := cut_count (toL p)
    rw [← hcs] at this
    simp [toL] at this
    omega
  clear hcs
  go_wp2_with fail
  go_loopw [4] (fun i wr => ∃ k : Nat, k ≤ cs.length ∧ i = .int .i64 k ∧ Hid (((cs.map toL).take k).all nameL = true) ∧ wr = w1) (fun i _ => cs.length - (intOf i).toNat)
  case atStart => exact ⟨0, Nat.zero_le _, rfl, hide (by simp), rfl⟩
  case round =>
    obtain ⟨k, hk, rfl, HA, rfl⟩ := hrel
    by_cases hlt : (k : Int) < cs.length
    · have hlt' : k < cs.length := by omega
      obtain ⟨ad, rfl, hlow, hc⟩ := hR k cs[k] (List.getElem?_eq_getElem hlt')
      have hsn := all_take_succ cs k cs[k] (List.getElem?_eq_getElem hlt')
      rw [HA.out, Bool.true_and] at hsn
      have HS := hide hsn
      clear hsn
      have hsz : (cs[k].size : Int) ≤ 9223372036854775800 := by have := piece_size HC.out (List.getElem?_eq_getElem hlt'); simp [toL] at this; omega
      go_wp2_with fail
      refine (refName_any cs[k] _ hsz).mono ?_
      rintro e w2 ⟨rfl, rfl⟩
      cases hn : nameL cs[k].data.toList with
      | true =>
        go_wp2_with fail
        go_roundw
        case rel => exact ⟨k + 1, by omega, rfl, hide (by rw [HS.out]; exact hn), trivial⟩
        case measure => simp [intOf]; omega
      | false =>
        have HF := hide (show rightL (toL p) = false by
          have h := HS.out
          rw [show nameL (toL cs[k]) = false from hn, HC.out] at h
          have e : (cutL (toL p)).all nameL = false := by
            rw [← List.take_append_drop (k + 1) (cutL (toL p)), List.all_append, h]; rfl
          rw [right_cut, e]; rfl)
        go_wp2_with fail
        refine bodyPost_ret (results_tmp rfl _ _ _) rfl ⟨by rw [HF.out]; rfl, hB1⟩
    · obtain rfl : k = cs.length := by omega
      have HF := hide (show rightL (toL p) = decide ((cs.length : Int) ≤ 16) by
        have h := HA.out
        rw [List.take_of_length_le (by simp), HC.out] at h
        rw [right_cut, h, ← HC.out, Bool.true_and, List.length_map, decide_eq_decide]; omega)
      go_wp2_with fail
      refine bodyPost_ret (results_tmp rfl _ _ _) rfl ⟨by rw [HF.out]; rfl, hB1⟩

end Go.Proofs.YthlalmehcpionaaDoor
/-
  The reference's Glue, Names, Parent, Base, Within.
-/
namespace Go.Proofs.YthlalmehcpionaaDoor
open Go.RowKit
set_option maxRecDepth 100000

theorem glue_take_succ (cs : List ByteArray) (k : Nat) (x : ByteArray) (hx : cs[k]? = some x) :
    glueL ((cs.map toL).take (k + 1)) = if k = 0 then toL x else glueL ((cs.map toL).take k) ++ 47 :: toL x := by
  obtain ⟨hlt, he⟩ := List.getElem?_eq_some_iff.1 hx
  rw [List.take_succ_eq_append_getElem (by simpa using hlt)]
  by_cases hk : k = 0
  · subst hk
    rw [if_pos rfl]; simp [he, glueL]
  · rw [if_neg hk, glue_append _ _ (by
      intro e
      rcases List.take_eq_nil_iff.1 e with h | h
      · exact hk h
      · have := congrArg List.length h
        simp at this
        subst this
        simp at hlt) (by simp)]
    simp [he, glueL]

set_option maxHeartbeats 2000000 in
theorem refGlue_any (A : Option Addr) (cs : List ByteArray) (c B : Nat) (w : World) (hA : Rd w B A cs) (hn : (cs.length : Int) ≤ 1000001) (hz : ∀ (k : Nat) (x : ByteArray), cs[k]? = some x → (x.size : Int) ≤ 1000000) :
    Calls Tryd.prog 31 #[.slice A cs.length c] w fun e w' => (∃ g : ByteArray, e = .returned (.string g) ∧ toL g = glueL (cs.map toL) ∧ (g.size : Int) ≤ 1000001 * cs.length) ∧ w' = w := by
  have HZ := hide hz
  clear hz
  go_enter Tryd.func31, Tryd.ntmps31
  go_wp2_with fail
  go_loopw [3, 4] (fun s i wr => ∃ (k : Nat) (g : ByteArray), k ≤ cs.length ∧ i = .int .i64 k ∧ s = .string g ∧ (g.size : Int) ≤ 1000001 * k ∧ Hid (toL g = glueL ((cs.map toL).take k)) ∧ wr = w) (fun _ i _ => cs.length - (intOf i).toNat)
  case atStart => exact ⟨0, ⟨#[]⟩, Nat.zero_le _, rfl, rfl, by decide, hide (by simp [glueL, toL]), rfl⟩
  case round =>
    obtain ⟨k, g, hk, rfl, rfl, hg, HG, rfl⟩ := hrel
    by_cases l1 : (k : Int) < cs.length
    · have n1 : k < cs.length := by omega
      have g1 := List.getElem?_eq_getElem n1
      obtain ⟨ad, rfl, _, hc⟩ := hA k _ g1
      have hz := HZ.out k _ g1
      have hs := glue_take_succ cs k _ g1
      clear g1
      by_cases h0 : k = 0
      · have HS := hide (show toL (g ++ cs[k]) = glueL ((cs.map toL).take (k + 1)) by
          rw [hs, if_pos h0, toL_app, HG.out, show (cs.map toL).take k = [] by rw [h0]; rfl]; rfl)
        have h0' : ¬ (0 : Int) < k := by omega
        have hgk : (g.size : Int) = 0 := by omega
        have q1 : ¬ 9223372036854775807 < g.size + cs[k].size := by omega
        clear hs h0 hgk
        go_wp2_with fail
        go_roundw
        case rel => exact ⟨k + 1, g ++ cs[k], by omega, rfl, rfl, by rw [ByteArray.size_append]; omega, HS, trivial⟩
        case measure => simp [intOf]; omega
      · have HS := hide (show toL (g ++ ⟨#[47]⟩ ++ cs[k]) = glueL ((cs.map toL).take (k + 1)) by
          rw [hs, if_neg h0, toL_app, toL_app, HG.out]; simp [toL])
        clear hs
        have h0' : (0 : Int) < k := by omega
        have q1 : ¬ 9223372036854775807 < g.size + 1 := by omega
        have q2 : ¬ 9223372036854775807 < g.size + 1 + cs[k].size := by omega
        go_wp2_with fail
        go_roundw
        case rel => exact ⟨k + 1, g ++ ⟨#[47]⟩ ++ cs[k], by omega, rfl, rfl, by rw [ByteArray.size_append, ByteArray.size_append]; show ((g.size + 1 + cs[k].size : Nat) : Int) ≤ _; omega, HS, trivial⟩
        case measure => simp [intOf]; omega
    · obtain rfl : k = cs.length := by omega
      have HF := hide (show toL g = glueL (cs.map toL) by rw [HG.out, List.take_of_length_le (by simp)])
      go_wp2_with fail
      refine bodyPost_ret (results_tmp rfl _ _ _) rfl ⟨⟨g, rfl, HF.out, by omega⟩, rfl⟩

set_option maxHeartbeats 1000000 in
theorem refNames_any (p : ByteArray) (w : World) (hp : (p.size : Int) ≤ 1000000) :
    Calls Tryd.prog 29 #[.string p] w (Cuts w (namesL (toL p))) := by
  go_enter Tryd.func29, Tryd.ntmps29
  go_wp2_with fail
  refine (refRight_any p w hp).mono ?_
  rintro e w1 ⟨rfl, hB1⟩
  cases hr : rightL (toL p) with
  | false =>
    have HN := hide (show namesL (toL p) = [] by rw [names_cut, hr]; rfl)
    go_wp2_with fail
    refine bodyPost_ret (results_tmp rfl _ _ _) rfl ⟨none, 0, [], rfl, HN.out.symm, by simp, Rd.nil _ _ _, hB1⟩
  | true =>
    have HN := hide (show namesL (toL p) = cutL (toL p) by rw [names_cut, hr]; rfl)
    go_wp2_with fail
    refine (refCut_any p w1 hp).mono ?_
    rintro e w2 ⟨A, c, cs, rfl, hcs, hcap, hR, hB2⟩
    have HC := hide hcs
    clear hcs
    go_wp2_with fail
    refine bodyPost_ret (results_tmp rfl _ _ _) rfl ⟨A, c, cs, rfl, by rw [HC.out, HN.out], hcap, hR, hB1.trans (hB2.mono hB1.size)⟩
theorem names_size {cs : List ByteArray} {p : ByteArray} (h : cs.map toL = namesL (toL p)) (hp : (p.size : Int) ≤ 1000000) : (cs.length : Int) ≤ 16 ∧ ∀ (k : Nat) (x : ByteArray), cs[k]? = some x → (x.size : Int) ≤ 1000000 := by
  constructor
  · have := namesL_len (toL p)
    rw [← h] at this
    simp at this
    omega
  · intro k x hx
    rw [names_cut] at h
    cases hr : rightL (toL p) with
    | false => rw [hr] at h; simp at h; subst h; simp at hx
    | true =>
      rw [hr] at h
      have := piece_size h hx
      simp [toL] at this
      omega
theorem Rd.take {w : World} {B : Nat} {A : Option Addr} {l : List ByteArray} (h : Rd w B A l) (k : Nat) : Rd w B A (l.take k) := fun j x hx => by
  rw [List.getElem?_take] at hx
  split at hx
  · exact h j x hx
  · cases hx

end Go.Proofs.YthlalmehcpionaaDoor
