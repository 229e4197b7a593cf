/-
  Texts that belong together: PathLib, PathName, PathPreCut.
-/
import Derived.Test.YthlalmehcpionaaDoorProg
import Derived.Test.YthlalmehcpionaaDoorBase
import Derived.WalkKit
import Derived.WalkSpells
import Derived.Lib.IndexLaws
import Derived.Lib.Bytealg
import Derived.Lib.Strings
import Derived.WalkLawsBesides
import Derived.Deep.QuietTactic
import Derived.BigQuiet
import Derived.WalkSmall
/-
  What package strings answers for a separator of one byte: where it first stands.
-/
namespace Go.Proofs.YthlalmehcpionaaDoor
open Go.RowKit
set_option maxRecDepth 100000

set_option maxHeartbeats 400000 in
theorem indexByte_any (s : ByteArray) (c : UInt8) (w : World) :
    Calls Tryd.prog 63 #[.string s, .int .u8 c.toNat] w fun e w' => e = .returned (.int .i64 (Lib.indexByte s.data.toList c)) ∧ w = w' := by
  go_enter Tryd.func63, Tryd.ntmps63
  go_wp2
  rw [run_callFunc_extern Tryd.func77 (by kernel_rfl) (by kernel_rfl) (by kernel_rfl) (e := Extern.BytealgIndexByte.indexByte) (by kernel_rfl), Lib.run_indexByteString]
  simp only [Result.andThen]
  rw [Oper.upon_value]
  go_wp2
  go_ret
  exact ⟨by simp, rfl⟩

set_option maxRecDepth 100000 in
set_option maxHeartbeats 1000000 in
theorem slIndex_any (s : ByteArray) (c : UInt8) (w : World) :
    Calls Tryd.prog 87 #[.string s, .string ⟨#[c]⟩] w fun e w' => e = .returned (.int .i64 (Lib.indexByte s.data.toList c)) ∧ w = w' := by
  cases hE : ([c] == s.toList) with
  | true =>
    have e : s.data.toList = [c] := by rw [← Lib.toList_data]; exact (beq_iff_eq.1 hE).symm
    have HR := hide (show Lib.indexByte s.data.toList c = 0 by rw [e]; simp [Lib.indexByte])
    clear e
    go_enter Tryd.func87, Tryd.ntmps87
    go_wp2
    go_ret
    exact ⟨by rw [HR.out]; rfl, rfl⟩
  | false =>
    go_enter Tryd.func87, Tryd.ntmps87
    go_wp2_with (go_at_call 63; refine (indexByte_any s c _).mono ?_; rintro e w' ⟨rfl, rfl⟩)
    go_ret
    exact ⟨rfl, rfl⟩

set_option maxHeartbeats 400000 in
theorem index_any (s : ByteArray) (c : UInt8) (w : World) :
    Calls Tryd.prog 83 #[.string s, .string ⟨#[c]⟩] w fun e w' => e = .returned (.int .i64 (Lib.indexByte s.data.toList c)) ∧ w = w' := by
  go_enter Tryd.func83, Tryd.ntmps83
  go_wp2_with fail
  refine (slIndex_any s c _).mono ?_
  rintro e w1 ⟨rfl, rfl⟩
  go_wp2
  go_ret
  exact ⟨rfl, rfl⟩

/-! ### paths.Name -/
def letter (n : Int) : Bool := (decide (97 ≤ n) && decide (n ≤ 122)) || (decide (65 ≤ n) && decide (n ≤ 90)) || (decide (48 ≤ n) && decide (n ≤ 57)) || n == 46 || n == 95 || n == 45

set_option maxHeartbeats 800000 in
theorem ofName_any (n : Int) (w : World) :
    Calls Tryd.prog 72 #[.int .u8 n] w fun e w' => e = .returned (.bool (letter n)) ∧ w = w' := by
  by_cases e46 : n = 46
  · subst e46
    go_enter Tryd.func72, Tryd.ntmps72
    go_wp2
    go_ret
    exact ⟨rfl, rfl⟩
  by_cases e95 : n = 95
  · subst e95
    go_enter Tryd.func72, Tryd.ntmps72
    go_wp2
    go_ret
    exact ⟨rfl, rfl⟩
  by_cases e45 : n = 45
  · subst e45
    go_enter Tryd.func72, Tryd.ntmps72
    go_wp2
    go_ret
    exact ⟨rfl, rfl⟩
  have d46 : (n == 46) = false := beq_eq_false_iff_ne.2 e46
  have d95 : (n == 95) = false := beq_eq_false_iff_ne.2 e95
  have d45 : (n == 45) = false := beq_eq_false_iff_ne.2 e45
  clear e46 e95 e45
  by_cases r0 : n < 48
  · have HL := hide (show letter n = false by unfold letter; rw [d46, d95, d45]; simp; omega)
    have f0 : ¬ 97 ≤ n := by omega
    have f1 : ¬ 65 ≤ n := by omega
    have f2 : ¬ 48 ≤ n := by omega
    clear r0
    go_enter Tryd.func72, Tryd.ntmps72
    go_wp2
    go_ret
    exact ⟨by rw [HL.out]; rfl, rfl⟩
  by_cases r1 : 48 ≤ n ∧ n ≤ 57
  · have HL := hide (show letter n = true by unfold letter; rw [d46, d95, d45]; simp; omega)
    have f0 : ¬ 97 ≤ n := by omega
    have f1 : ¬ 65 ≤ n := by omega
    have f2 : 48 ≤ n := by omega
    have f3 : n ≤ 57 := by omega
    clear r1
    go_enter Tryd.func72, Tryd.ntmps72
    go_wp2
    go_ret
    exact ⟨by rw [HL.out]; rfl, rfl⟩
  by_cases r2 : 57 < n ∧ n < 65
  · have HL := hide (show letter n = false by unfold letter; rw [d46, d95, d45]; simp; omega)
    have f0 : ¬ 97 ≤ n := by omega
    have f1 : ¬ 65 ≤ n := by omega
    have f2 : 48 ≤ n := by omega
    have f3 : ¬ n ≤ 57 := by omega
    clear r2
    go_enter Tryd.func72, Tryd.ntmps72
    go_wp2
    go_ret
    exact ⟨by rw [HL.out]; rfl, rfl⟩
  by_cases r3 : 65 ≤ n ∧ n ≤ 90
  · have HL := hide (show letter n = true by unfold letter; rw [d46, d95, d45]; simp; omega)
    have f0 : ¬ 97 ≤ n := by omega
    have f1 : 65 ≤ n := by omega
    have f2 : n ≤ 90 := by omega
    clear r3
    go_enter Tryd.func72, Tryd.ntmps72
    go_wp2
    go_ret
    exact ⟨by rw [HL.out]; rfl, rfl⟩
  by_cases r4 : 90 < n ∧ n < 97
  · have HL := hide (show letter n = false by unfold letter; rw [d46, d95, d45]; simp; omega)
    have f0 : ¬ 97 ≤ n := by omega
    have f1 : 65 ≤ n := by omega
    have f2 : ¬ n ≤ 90 := by omega
    have f3 : 48 ≤ n := by omega
    have f4 : ¬ n ≤ 57 := by omega
    clear r4
    go_enter Tryd.func72, Tryd.ntmps72
    go_wp2
    go_ret
    exact ⟨by rw [HL.out]; rfl, rfl⟩
  by_cases r5 : 97 ≤ n ∧ n ≤ 122
  · have HL := hide (show letter n = true by unfold letter; rw [d46, d95, d45]; simp; omega)
    have f0 : 97 ≤ n := by omega
    have f1 : n ≤ 122 := by omega
    clear r5
    go_enter Tryd.func72, Tryd.ntmps72
    go_wp2
    go_ret
    exact ⟨by rw [HL.out]; rfl, rfl⟩
  by_cases r6 : 122 < n
  · have HL := hide (show letter n = false by unfold letter; rw [d46, d95, d45]; simp; omega)
    have f0 : 97 ≤ n := by omega
    have f1 : ¬ n ≤ 122 := by omega
    have f2 : 65 ≤ n := by omega
    have f3 : ¬ n ≤ 90 := by omega
    have f4 : 48 ≤ n := by omega
    have f5 : ¬ n ≤ 57 := by omega
    clear r6
    go_enter Tryd.func72, Tryd.ntmps72
    go_wp2
    go_ret
    exact ⟨by rw [HL.out]; rfl, rfl⟩
  omega
end Go.Proofs.YthlalmehcpionaaDoor
/-
  What paths.Name answers.
-/
namespace Go.Proofs.YthlalmehcpionaaDoor
open Go.RowKit
set_option maxRecDepth 100000

def nameL (L : List UInt8) : Bool := !L.isEmpty && decide (L.length ≤ 12) && !(L == [46]) && !(L == [46, 46]) && L.all (fun c => letter c.toNat)

theorem nameL_snoc (s : ByteArray) (k : Nat) (h : k < s.size) : (s.data.toList.take (k + 1)).all (fun c => letter c.toNat) = ((s.data.toList.take k).all (fun c => letter c.toNat) && letter s[k].toNat) := by
  have h' : k < s.data.toList.length := by simpa using h
  have e : s.data.toList.take (k + 1) = s.data.toList.take k ++ [s.data.toList[k]] := List.take_succ_eq_append_getElem h'
  rw [e, List.all_append]
  congr 1
  show (letter s[k].toNat && true) = _
  simp

theorem name_long (s : ByteArray) (w : World) (h : (12 : Int) < s.size) (h0 : s.toList.isEmpty = false) :
    Calls Tryd.prog 58 #[.string s] w fun e w' => e = .returned (.bool (nameL s.data.toList)) ∧ w = w' := by
    have HL := hide (show nameL s.data.toList = false by
      have : ¬ s.data.toList.length ≤ 12 := by rw [← Lib.size_eq]; omega
      unfold nameL; simp only [this]; simp)
    go_enter Tryd.func58, Tryd.ntmps58
    go_wp2
    go_ret
    exact ⟨by rw [HL.out]; rfl, rfl⟩

set_option maxHeartbeats 800000 in
theorem name_any (s : ByteArray) (w : World) :
    Calls Tryd.prog 58 #[.string s] w fun e w' => e = .returned (.bool (nameL s.data.toList)) ∧ w = w' := by
  cases h0 : s.toList.isEmpty with
  | true =>
    have HL := hide (show nameL s.data.toList = false by unfold nameL; rw [← Lib.toList_data, h0]; rfl)
    go_enter Tryd.func58, Tryd.ntmps58
    go_wp2
    go_ret
    exact ⟨by rw [HL.out]; rfl, rfl⟩
  | false =>
  by_cases h1 : (12 : Int) < s.size
  · exact name_long s w h1 h0
  cases h2 : (s.toList == [46]) with
  | true =>
    have HL := hide (show nameL s.data.toList = false by unfold nameL; rw [← Lib.toList_data, h2]; simp)
    go_enter Tryd.func58, Tryd.ntmps58
    go_wp2
    go_ret
    exact ⟨by rw [HL.out]; rfl, rfl⟩
  | false =>
  cases h3 : (s.toList == [46, 46]) with
  | true =>
    have HL := hide (show nameL s.data.toList = false by unfold nameL; rw [← Lib.toList_data, h3]; simp)
    go_enter Tryd.func58, Tryd.ntmps58
    go_wp2
    go_ret
    exact ⟨by rw [HL.out]; rfl, rfl⟩
  | false =>
    have hb : nameL s.data.toList = s.data.toList.all (fun c => letter c.toNat) := by
      have hl : decide (s.data.toList.length ≤ 12) = true := by rw [← Lib.size_eq]; simp; omega
      unfold nameL
      rw [hl]
      rw [← Lib.toList_data, h0, h2, h3]
      simp
    have HB := hide hb
    clear hb
    go_enter Tryd.func58, Tryd.ntmps58
    go_wp2
    go_loop [21] (fun i => ∃ k : Nat, k ≤ s.size ∧ i = .int .i64 k ∧ Hid ((s.data.toList.take k).all (fun c => letter c.toNat) = true)) (fun i => s.size - (intOf i).toNat)
    case atStart => exact ⟨0, Nat.zero_le _, rfl, by simp [Hid]⟩
    case round =>
      obtain ⟨k, hk, rfl, HA⟩ := hrel
      by_cases hlt : (k : Int) < s.size
      · have hlt' : k < s.size := by omega
        have hsn := nameL_snoc s k hlt'
        rw [HA.out, Bool.true_and] at hsn
        cases hc : letter s[k].toNat with
        | true =>
          rw [hc] at hsn
          have HS := hide hsn
          clear hsn
          go_wp2_with (go_at_call 72; refine (ofName_any _ _).mono ?_; rintro e w' ⟨rfl, rfl⟩; rw [hc])
          exact ⟨⟨k + 1, by omega, by go_num, HS⟩, by simp [intOf]; omega⟩
        | false =>
          have HF := hide (show nameL s.data.toList = false by
            rw [HB.out, List.all_eq_false]
            exact ⟨s[k], by rw [show s[k] = s.data.toList[k]'(by simpa using hlt') from rfl]; exact List.getElem_mem _, by rw [hc]; simp⟩)
          clear hsn
          go_wp2_with (go_at_call 72; refine (ofName_any _ _).mono ?_; rintro e w' ⟨rfl, rfl⟩; rw [hc])
          go_ret
          exact ⟨by rw [HF.out]; rfl, rfl⟩
      · have HF := hide (show nameL s.data.toList = true by
          have := HA.out
          rw [List.take_of_length_le (by simp; omega)] at this
          rw [HB.out, this])
        go_wp2
        go_ret
        exact ⟨by rw [HF.out]; rfl, rfl⟩
end Go.Proofs.YthlalmehcpionaaDoor
/-
  strings.CutPrefix.
-/
namespace Go.Proofs.YthlalmehcpionaaDoor
open Go.RowKit
set_option maxRecDepth 100000

/-- Whether a text begins so. -/
def preB (s p : ByteArray) : Bool := p.data.toList.isPrefixOf s.data.toList

theorem pre_some (s p : ByteArray) (h : preB s p = true) : (p.size : Int) ≤ s.size ∧ s.extract 0 p.size = p := by
  have h := List.isPrefixOf_iff_prefix.1 h
  have hl := h.length_le
  simp at hl
  have hl' : p.size ≤ s.size := hl
  refine ⟨by omega, ?_⟩
  apply ByteArray.ext
  apply Array.ext'
  rw [Lib.extract_data]
  obtain ⟨t, ht⟩ := h
  rw [← ht]
  simp
theorem pre_none (s p : ByteArray) (h : preB s p = false) : ((s.extract 0 p.size).toList == p.toList) = false := by
  rw [Bool.eq_false_iff]
  intro e
  have e := eq_of_beq e
  rw [Lib.toList_data, Lib.toList_data] at e
  have : p.data.toList <+: s.data.toList := by
    refine ⟨s.data.toList.drop p.size, ?_⟩
    rw [← e, Lib.extract_data]
    simp
  unfold preB at h
  rw [List.isPrefixOf_iff_prefix.2 this] at h
  cases h

set_option maxHeartbeats 400000 in
theorem hasPre_any (s p : ByteArray) (w : World) :
    Calls Tryd.prog 64 #[.string s, .string p] w fun e w' => e = .returned (.bool (preB s p)) ∧ w' = w := by
  go_enter Tryd.func64, Tryd.ntmps64
  cases h : preB s p with
  | true =>
    obtain ⟨h1, h2⟩ := pre_some s p h
    have h3 : 0 ≤ (p.size : Int) := by omega
    go_wp2
    go_ret
    exact ⟨rfl, rfl⟩
  | false =>
    by_cases h1 : (p.size : Int) ≤ s.size
    · have h2 := pre_none s p h
      have h3 : 0 ≤ (p.size : Int) := by omega
      go_wp2
      go_ret
      exact ⟨rfl, rfl⟩
    · go_wp2
      go_ret
      exact ⟨rfl, rfl⟩

/-- What stands behind a text's beginning. -/
def restP (s p : ByteArray) : ByteArray := if preB s p then s.extract p.size s.size else s
theorem restP_some {s p : ByteArray} (h : preB s p = true) : restP s p = s.extract p.size s.size := if_pos h
theorem restP_none {s p : ByteArray} (h : preB s p = false) : restP s p = s := by unfold restP; rw [h]; rfl

set_option maxHeartbeats 400000 in
theorem slCutPre_any (s p : ByteArray) (w : World) :
    Calls Tryd.prog 53 #[.string s, .string p] w fun e w' => e = .returned (.tuple #[.string (restP s p), .bool (preB s p)]) ∧ w' = w := by
  go_enter Tryd.func53, Tryd.ntmps53
  go_wp2_with fail
  refine (hasPre_any s p _).mono ?_
  rintro e w1 ⟨rfl, rfl⟩
  cases h : preB s p with
  | true =>
    obtain ⟨h1, h2⟩ := pre_some s p h
    have h3 : 0 ≤ (p.size : Int) := by omega
    clear h2
    have HB := hide h
    have HR := hide (restP_some h)
    go_wp2
    refine bodyPost_ret (results_tmp2 rfl _ _ _) rfl ?_
    exact ⟨by rw [HR.out, HB.out]; rfl, rfl⟩
  | false =>
    have HB := hide h
    have HR := hide (restP_none h)
    go_wp2
    refine bodyPost_ret (results_tmp2 rfl _ _ _) rfl ?_
    exact ⟨by rw [HR.out, HB.out]; rfl, rfl⟩

set_option maxHeartbeats 400000 in
theorem cutPre_any (s p : ByteArray) (w : World) :
    Calls Tryd.prog 41 #[.string s, .string p] w fun e w' => e = .returned (.tuple #[.string (restP s p), .bool (preB s p)]) ∧ w' = w := by
  go_enter Tryd.func41, Tryd.ntmps41
  go_wp2_with fail
  refine (slCutPre_any s p _).mono ?_
  rintro e w1 ⟨rfl, rfl⟩
  go_wp2
  refine bodyPost_ret (results_tmp2 rfl _ _ _) rfl ?_
  exact ⟨rfl, rfl⟩

end Go.Proofs.YthlalmehcpionaaDoor
