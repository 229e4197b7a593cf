/-
  Texts that belong together: PathRefName, RefRight, PathCmpL.
-/
import Derived.Test.YteoafohebgfjdaaGreatDoorAutoPathName
import Derived.Deep.DeepCutAuto
import Derived.Test.YteoafohebgfjdaaGreatDoorAutoRefCut
import Derived.Deep.QuietTactic
import Derived.BigQuiet
import Derived.Test.YteoafohebgfjdaaGreatDoorAutoNodesOwn
/-
  The reference's Name.
-/
namespace Go.Proofs.YteoafohebgfjdaaGreatDoor
open Go.RowKit
set_option maxRecDepth 100000

set_option maxRecDepth 100000 in
set_option maxHeartbeats 2000000 in
theorem refName_any (s : ByteArray) (w : World) (hs : (s.size : Int) ≤ 9223372036854775800) :
    Calls Tryz.prog 55 #[.string s] w fun e w' => e = .returned (.bool (nameL s.data.toList)) ∧ w' = w := by
  go_enter Tryz.func55, Tryz.ntmps55
  go_wp2_with fail
  go_loop [3] (fun i => ∃ k : Nat, k ≤ s.size ∧ i = .int .i64 k ∧ Hid ((s.data.toList.take k).all (fun c => letter c.toNat) = true)) (fun i => s.size - (intOf i).toNat)
  case atStart => exact ⟨0, Nat.zero_le _, rfl, by simp [Hid]⟩
  case round =>
    obtain ⟨k, hk, rfl, HA⟩ := hrel
    by_cases hlt : (k : Int) < s.size
    · have hlt' : k < s.size := by omega
      have hsn := nameL_snoc s k hlt'
      rw [HA.out, Bool.true_and] at hsn
      have HS := hide hsn
      clear hsn
      go_upto_region 5 with fail
      go_cut [4, 48] (fun _ s48 wx => s48 = .bool (!letter s[k].toNat) ∧ wx = w)
      case first =>
        by_cases e46 : (s[k].toNat : Int) = 46
        · have HL := hide (show letter (s[k].toNat : Int) = true by rw [e46]; rfl)
          go_wp2_with fail
          go_meet
          exact ⟨by rw [HL.out]; rfl, rfl⟩
        by_cases e95 : (s[k].toNat : Int) = 95
        · have HL := hide (show letter (s[k].toNat : Int) = true by rw [e95]; rfl)
          go_wp2_with fail
          go_meet
          exact ⟨by rw [HL.out]; rfl, rfl⟩
        by_cases e45 : (s[k].toNat : Int) = 45
        · have HL := hide (show letter (s[k].toNat : Int) = true by rw [e45]; rfl)
          go_wp2_with fail
          go_meet
          exact ⟨by rw [HL.out]; rfl, rfl⟩
        have d46 : ((s[k].toNat : Int) == 46) = false := beq_eq_false_iff_ne.2 e46
        have d95 : ((s[k].toNat : Int) == 95) = false := beq_eq_false_iff_ne.2 e95
        have d45 : ((s[k].toNat : Int) == 45) = false := beq_eq_false_iff_ne.2 e45
        clear e46 e95 e45
        by_cases r0 : (s[k].toNat : Int) < 48
        · have HL := hide (show letter (s[k].toNat : Int) = false by unfold letter; rw [d46, d95, d45]; simp; omega)
          have f0 : ¬ 97 ≤ (s[k].toNat : Int) := by omega
          have f1 : ¬ 65 ≤ (s[k].toNat : Int) := by omega
          have f2 : ¬ 48 ≤ (s[k].toNat : Int) := by omega
          clear r0
          go_wp2_with fail
          go_meet
          exact ⟨by rw [HL.out]; rfl, rfl⟩
        by_cases r1 : 48 ≤ (s[k].toNat : Int) ∧ (s[k].toNat : Int) ≤ 57
        · have HL := hide (show letter (s[k].toNat : Int) = true by unfold letter; rw [d46, d95, d45]; simp; omega)
          have f0 : ¬ 97 ≤ (s[k].toNat : Int) := by omega
          have f1 : ¬ 65 ≤ (s[k].toNat : Int) := by omega
          have f2 : 48 ≤ (s[k].toNat : Int) := by omega
          have f3 : (s[k].toNat : Int) ≤ 57 := by omega
          clear r1
          go_wp2_with fail
          go_meet
          exact ⟨by rw [HL.out]; rfl, rfl⟩
        by_cases r2 : 57 < (s[k].toNat : Int) ∧ (s[k].toNat : Int) < 65
        · have HL := hide (show letter (s[k].toNat : Int) = false by unfold letter; rw [d46, d95, d45]; simp; omega)
          have f0 : ¬ 97 ≤ (s[k].toNat : Int) := by omega
          have f1 : ¬ 65 ≤ (s[k].toNat : Int) := by omega
          have f2 : 48 ≤ (s[k].toNat : Int) := by omega
          have f3 : ¬ (s[k].toNat : Int) ≤ 57 := by omega
          clear r2
          go_wp2_with fail
          go_meet
          exact ⟨by rw [HL.out]; rfl, rfl⟩
        by_cases r3 : 65 ≤ (s[k].toNat : Int) ∧ (s[k].toNat : Int) ≤ 90
        · have HL := hide (show letter (s[k].toNat : Int) = true by unfold letter; rw [d46, d95, d45]; simp; omega)
          have f0 : ¬ 97 ≤ (s[k].toNat : Int) := by omega
          have f1 : 65 ≤ (s[k].toNat : Int) := by omega
          have f2 : (s[k].toNat : Int) ≤ 90 := by omega
          clear r3
          go_wp2_with fail
          go_meet
          exact ⟨by rw [HL.out]; rfl, rfl⟩
        by_cases r4 : 90 < (s[k].toNat : Int) ∧ (s[k].toNat : Int) < 97
        · have HL := hide (show letter (s[k].toNat : Int) = false by unfold letter; rw [d46, d95, d45]; simp; omega)
          have f0 : ¬ 97 ≤ (s[k].toNat : Int) := by omega
          have f1 : 65 ≤ (s[k].toNat : Int) := by omega
          have f2 : ¬ (s[k].toNat : Int) ≤ 90 := by omega
          have f3 : 48 ≤ (s[k].toNat : Int) := by omega
          have f4 : ¬ (s[k].toNat : Int) ≤ 57 := by omega
          clear r4
          go_wp2_with fail
          go_meet
          exact ⟨by rw [HL.out]; rfl, rfl⟩
        by_cases r5 : 97 ≤ (s[k].toNat : Int) ∧ (s[k].toNat : Int) ≤ 122
        · have HL := hide (show letter (s[k].toNat : Int) = true by unfold letter; rw [d46, d95, d45]; simp; omega)
          have f0 : 97 ≤ (s[k].toNat : Int) := by omega
          have f1 : (s[k].toNat : Int) ≤ 122 := by omega
          clear r5
          go_wp2_with fail
          go_meet
          exact ⟨by rw [HL.out]; rfl, rfl⟩
        by_cases r6 : 122 < (s[k].toNat : Int)
        · have HL := hide (show letter (s[k].toNat : Int) = false by unfold letter; rw [d46, d95, d45]; simp; omega)
          have f0 : 97 ≤ (s[k].toNat : Int) := by omega
          have f1 : ¬ (s[k].toNat : Int) ≤ 122 := by omega
          have f2 : 65 ≤ (s[k].toNat : Int) := by omega
          have f3 : ¬ (s[k].toNat : Int) ≤ 90 := by omega
          have f4 : 48 ≤ (s[k].toNat : Int) := by omega
          have f5 : ¬ (s[k].toNat : Int) ≤ 57 := by omega
          clear r6
          go_wp2_with fail
          go_meet
          exact ⟨by rw [HL.out]; rfl, rfl⟩
        omega
      case rest =>
        obtain ⟨rfl, rfl⟩ := hcut
        cases hc : letter s[k].toNat with
        | true =>
          go_wp2_with fail
          go_round
          case rel => exact ⟨k + 1, by omega, rfl, hide (by rw [HS.out, hc])⟩
          case measure => simp [intOf]; omega
        | false =>
          have HF := hide (show nameL s.data.toList = false by
            have h := HS.out
            rw [hc] at h
            have e : s.data.toList.all (fun c => letter c.toNat) = false := by
              rw [← List.take_append_drop (k + 1) s.data.toList, List.all_append, h]; rfl
            unfold nameL
            rw [e, Bool.and_false])
          go_wp2_with fail
          refine bodyPost_ret (results_tmp rfl _ _ _) rfl ⟨by rw [HF.out]; rfl, rfl⟩
    · obtain rfl : k = s.size := by omega
      have hall : s.data.toList.all (fun c => letter c.toNat) = true := by
        have h := HA.out
        rw [List.take_of_length_le (by simp)] at h
        exact h
      have hN : nameL s.data.toList = (!s.data.toList.isEmpty && decide (s.data.toList.length ≤ 12) && !(s.data.toList == [46]) && !(s.data.toList == [46, 46])) := by unfold nameL; rw [hall, Bool.and_true]
      rw [← Lib.toList_data] at hN
      have hsz : s.toList.length = s.size := by rw [Lib.toList_data]; simp
      rw [hsz] at hN
      clear hall HA hlt hk
      by_cases z1 : (1 : Int) ≤ s.size
      · have he : s.toList.isEmpty = false := by
          cases h : s.toList.isEmpty with
          | false => rfl
          | true => rw [List.isEmpty_iff.1 h] at hsz; simp at hsz; omega
        rw [he] at hN
        by_cases z2 : (s.size : Int) ≤ 12
        · have hd : decide (s.size ≤ 12) = true := by simp; omega
          rw [hd] at hN
          have HN := hide hN
          clear hN hsz he hd
          cases h46 : (s.toList == [46]) with
          | true =>
            go_wp2_with fail
            refine bodyPost_ret (results_tmp rfl _ _ _) rfl ⟨by rw [Lib.toList_data] at HN h46; rw [HN.out, h46]; rfl, rfl⟩
          | false =>
            go_wp2_with fail
            refine bodyPost_ret (results_tmp rfl _ _ _) rfl ⟨by rw [Lib.toList_data] at HN h46; rw [HN.out, h46, ← Lib.toList_data]; rfl, rfl⟩
        · have hd : decide (s.size ≤ 12) = false := by simp; omega
          rw [hd] at hN
          have HN := hide hN
          clear hN hsz he hd
          go_wp2_with fail
          refine bodyPost_ret (results_tmp rfl _ _ _) rfl ⟨by rw [Lib.toList_data] at HN; rw [HN.out]; rfl, rfl⟩
      · have he : s.toList.isEmpty = true := by
          rw [List.isEmpty_iff]
          apply List.eq_nil_of_length_eq_zero
          omega
        rw [he] at hN
        have HN := hide hN
        clear hN hsz he
        go_wp2_with fail
        refine bodyPost_ret (results_tmp rfl _ _ _) rfl ⟨by rw [Lib.toList_data] at HN; rw [HN.out]; rfl, rfl⟩
end Go.Proofs.YteoafohebgfjdaaGreatDoor
/-
  The reference's Right and Same.
-/
namespace Go.Proofs.YteoafohebgfjdaaGreatDoor
open Go.RowKit
set_option maxRecDepth 100000

theorem all_take_succ (cs : List ByteArray) (k : Nat) (x : ByteArray) (hx : cs[k]? = some x) :
    ((cs.map toL).take (k + 1)).all nameL = (((cs.map toL).take k).all nameL && nameL (toL x)) := by
  obtain ⟨hlt, he⟩ := List.getElem?_eq_some_iff.1 hx
  rw [List.take_succ_eq_append_getElem (by simpa using hlt), List.all_append]
  simp [he]

theorem split_len : ∀ (l : List UInt8) (x : List UInt8), x ∈ splitL l → x.length ≤ l.length
  | [], x, h => by simp [splitL] at h; simp [h]
  | c :: r, x, h => by
    have ih := split_len r
    obtain ⟨a, t, hs⟩ := split_some r
    by_cases hc : c = 47
    · subst hc
      rw [split_slash] at h
      rcases List.mem_cons.1 h with rfl | h
      · simp
      · have := ih x h; simp; omega
    · rw [split_other hc hs] at h
      rw [hs] at ih
      rcases List.mem_cons.1 h with rfl | h
      · have := ih a (by simp); simp; omega
      · have := ih x (by simp [h]); simp; omega
theorem cut_len (l x : List UInt8) (h : x ∈ cutL l) : x.length ≤ l.length := by
  unfold cutL at h
  split at h
  · simp at h
  · exact split_len l x h
theorem split_count : ∀ l : List UInt8, (splitL l).length ≤ l.length + 1
  | [] => by simp [splitL]
  | c :: r => by
    have ih := split_count r
    obtain ⟨a, t, hs⟩ := split_some r
    by_cases hc : c = 47
    · subst hc; rw [split_slash]; simp; omega
    · rw [split_other hc hs]; rw [hs] at ih; simp at ih ⊢; omega
theorem cut_count (l : List UInt8) : (cutL l).length ≤ l.length + 1 := by
  unfold cutL
  split
  · simp
  · exact split_count l
theorem piece_size {cs : List ByteArray} {l : List UInt8} (h : cs.map toL = cutL l) {k : Nat} {x : ByteArray} (hx : cs[k]? = some x) : x.size ≤ l.length := by
  have := cut_len l (toL x) (by rw [← h]; exact List.mem_map.2 ⟨x, List.mem_of_getElem? hx, rfl⟩)
  simpa [toL] using this

set_option maxHeartbeats 2000000 in
theorem refRight_any (p : ByteArray) (w : World) (hp : (p.size : Int) ≤ 1000000) :
    Calls Tryz.prog 34 #[.string p] w fun e w' => e = .returned (.bool (rightL (toL p))) ∧ Below w.heap.size w w' := by
  go_enter Tryz.func34, Tryz.ntmps34
  go_wp2_with fail
  refine (refCut_any p w hp).mono ?_
  rintro e w1 ⟨A, c, cs, rfl, hcs, hcap, hR, hB1⟩
  have HC := hide hcs
  have hn : (cs.length : Int) ≤ 1000001 := by
    have := cut_count (toL p)
    rw [← hcs] at this
    simp [toL] at this
    omega
  clear hcs
  go_wp2_with fail
  go_loopw [4] (fun i wr => ∃ k : Nat, k ≤ cs.length ∧ i = .int .i64 k ∧ Hid (((cs.map toL).take k).all nameL = true) ∧ wr = w1) (fun i _ => cs.length - (intOf i).toNat)
  case atStart => exact ⟨0, Nat.zero_le _, rfl, hide (by simp), rfl⟩
  case round =>
    obtain ⟨k, hk, rfl, HA, rfl⟩ := hrel
    by_cases hlt : (k : Int) < cs.length
    · have hlt' : k < cs.length := by omega
      obtain ⟨ad, rfl, hlow, hc⟩ := hR k cs[k] (List.getElem?_eq_getElem hlt')
      have hsn := all_take_succ cs k cs[k] (List.getElem?_eq_getElem hlt')
      rw [HA.out, Bool.true_and] at hsn
      have HS := hide hsn
      clear hsn
      have hsz : (cs[k].size : Int) ≤ 9223372036854775800 := by have := piece_size HC.out (List.getElem?_eq_getElem hlt'); simp [toL] at this; omega
      go_wp2_with fail
      refine (refName_any cs[k] _ hsz).mono ?_
      rintro e w2 ⟨rfl, rfl⟩
      cases hn : nameL cs[k].data.toList with
      | true =>
        go_wp2_with fail
        go_roundw
        case rel => exact ⟨k + 1, by omega, rfl, hide (by rw [HS.out]; exact hn), trivial⟩
        case measure => simp [intOf]; omega
      | false =>
        have HF := hide (show rightL (toL p) = false by
          have h := HS.out
          rw [show nameL (toL cs[k]) = false from hn, HC.out] at h
          have e : (cutL (toL p)).all nameL = false := by
            rw [← List.take_append_drop (k + 1) (cutL (toL p)), List.all_append, h]; rfl
          rw [right_cut, e]; rfl)
        go_wp2_with fail
        refine bodyPost_ret (results_tmp rfl _ _ _) rfl ⟨by rw [HF.out]; rfl, hB1⟩
    · obtain rfl : k = cs.length := by omega
      have HF := hide (show rightL (toL p) = decide ((cs.length : Int) ≤ 16) by
        have h := HA.out
        rw [List.take_of_length_le (by simp), HC.out] at h
        rw [right_cut, h, ← HC.out, Bool.true_and, List.length_map, decide_eq_decide]; omega)
      go_wp2_with fail
      refine bodyPost_ret (results_tmp rfl _ _ _) rfl ⟨by rw [HF.out]; rfl, hB1⟩

/-- Two slices of texts, held against each other. -/
theorem take_same (a b : List ByteArray) (k : Nat) (x y : ByteArray) (hx : a[k]? = some x) (hy : b[k]? = some y) :
    (((a.map toL).take (k + 1)) == ((b.map toL).take (k + 1))) = (((a.map toL).take k == (b.map toL).take k) && (x.toList == y.toList)) := by
  obtain ⟨h1, e1⟩ := List.getElem?_eq_some_iff.1 hx
  obtain ⟨h2, e2⟩ := List.getElem?_eq_some_iff.1 hy
  rw [List.take_succ_eq_append_getElem (by simpa using h1), List.take_succ_eq_append_getElem (by simpa using h2)]
  rw [Bool.eq_iff_iff]
  simp only [beq_iff_eq, Bool.and_eq_true, List.getElem_map, e1, e2, Lib.toList_data]
  constructor
  · intro h
    obtain ⟨e, e'⟩ := List.append_inj' h rfl
    exact ⟨e, by simpa [toL] using e'⟩
  · rintro ⟨e, e'⟩
    rw [e]; simp [toL, e']
end Go.Proofs.YteoafohebgfjdaaGreatDoor
/-
  Two paths held against each other: plain.
-/
namespace Go.Proofs.YteoafohebgfjdaaGreatDoor
open Go.RowKit
set_option maxRecDepth 100000

/-- A byte's place. -/
def rankZ (b : Int) : Int := if b = 47 then -1 else b
theorem rankZ_in (b : Nat) (h : b < 256) : -1 ≤ rankZ b ∧ rankZ b ≤ 255 := by unfold rankZ; split <;> omega
def signZ (n : Int) : Int := if n < 0 then -1 else if n = 0 then 0 else 1
/-- Two paths, held against each other. -/
def cmpL : List UInt8 → List UInt8 → Int
  | [], [] => 0
  | [], _ :: _ => -1
  | _ :: _, [] => 1
  | a :: p, b :: q => if a = b then cmpL p q else signZ (rankZ a.toNat - rankZ b.toNat)

theorem cmpL_same : ∀ (k : Nat) (p q : List UInt8), p.take k = q.take k → k ≤ p.length → k ≤ q.length → cmpL p q = cmpL (p.drop k) (q.drop k)
  | 0, p, q, _, _, _ => by simp
  | k + 1, a :: p, b :: q, h, h1, h2 => by
    simp at h h1 h2
    rw [h.1]
    simp only [cmpL, if_true, List.drop_succ_cons]
    exact cmpL_same k p q h.2 h1 h2
  | k + 1, [], _, _, h1, _ => by simp at h1
  | k + 1, _ :: _, [], _, _, h2 => by simp at h2

theorem cmpL_at (k : Nat) (p q : ByteArray) (h : p.data.toList.take k = q.data.toList.take k) (h1 : k < p.size) (h2 : k < q.size) (hne : p[k] ≠ q[k]) :
    cmpL p.data.toList q.data.toList = signZ (rankZ p[k].toNat - rankZ q[k].toNat) := by
  have l1 : k < p.data.toList.length := by simpa using h1
  have l2 : k < q.data.toList.length := by simpa using h2
  rw [cmpL_same k _ _ h (by omega) (by omega), List.drop_eq_getElem_cons l1, List.drop_eq_getElem_cons l2]
  have e1 : p.data.toList[k] = p[k] := rfl
  have e2 : q.data.toList[k] = q[k] := rfl
  rw [e1, e2]
  simp [cmpL, hne]

theorem cmpL_end (p q : ByteArray) (h : p.data.toList.take (min p.size q.size) = q.data.toList.take (min p.size q.size)) :
    cmpL p.data.toList q.data.toList = signZ ((p.size : Int) - q.size) := by
  have s1 : p.data.toList.length = p.size := by simp
  have s2 : q.data.toList.length = q.size := by simp
  rw [cmpL_same _ _ _ h (by rw [s1]; omega) (by rw [s2]; omega)]
  by_cases hl : p.size ≤ q.size
  · rw [Nat.min_eq_left hl, List.drop_of_length_le (by omega)]
    cases hd : q.data.toList.drop p.size with
    | nil =>
      have := congrArg List.length hd
      simp at this
      have : (p.size : Int) - q.size = 0 := by omega
      rw [this]; rfl
    | cons c r =>
      have := congrArg List.length hd
      simp at this
      have h1 : (p.size : Int) - q.size < 0 := by omega
      simp [cmpL, signZ, h1]
  · rw [Nat.min_eq_right (by omega), List.drop_of_length_le (l := q.data.toList) (by omega)]
    cases hd : p.data.toList.drop q.size with
    | nil =>
      have := congrArg List.length hd
      simp at this
      omega
    | cons c r =>
      have h1 : ¬ (p.size : Int) - q.size < 0 := by omega
      have h2 : ¬ (p.size : Int) - q.size = 0 := by omega
      simp [cmpL, signZ, h1, h2]

theorem take_snoc_eq (k : Nat) (p q : ByteArray) (h : p.data.toList.take k = q.data.toList.take k) (h1 : k < p.size) (h2 : k < q.size) (he : p[k] = q[k]) : p.data.toList.take (k + 1) = q.data.toList.take (k + 1) := by
  have l1 : k < p.data.toList.length := by simpa using h1
  have l2 : k < q.data.toList.length := by simpa using h2
  rw [List.take_succ_eq_append_getElem l1, List.take_succ_eq_append_getElem l2, h]
  have e1 : p.data.toList[k] = p[k] := rfl
  have e2 : q.data.toList[k] = q[k] := rfl
  rw [e1, e2, he]

end Go.Proofs.YteoafohebgfjdaaGreatDoor
