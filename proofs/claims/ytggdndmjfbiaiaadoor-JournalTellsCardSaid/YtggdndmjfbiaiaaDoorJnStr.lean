/-
  What package strings answers here: where a byte first stands; CutPrefix; TrimSuffix of one byte.
-/
import Derived.Test.YtggdndmjfbiaiaaDoorBase
import Derived.WalkKit
import Derived.WalkSpells
import Derived.WalkLawsBesides
import Derived.WalkSmall
import Derived.IntWalk
import Derived.Lib.IndexLaws
import Derived.Lib.Bytealg
import Derived.Lib.Strings
import Derived.Deep.QuietTactic
import Derived.BigQuiet
namespace Go.Proofs.YtggdndmjfbiaiaaDoor
open Go.RowKit
set_option maxRecDepth 100000

set_option maxHeartbeats 400000 in
theorem indexByte_any (s : ByteArray) (c : UInt8) (w : World) :
    Calls Tryd.prog 28 #[.string s, .int .u8 c.toNat] w fun e w' => e = .returned (.int .i64 (Lib.indexByte s.data.toList c)) ∧ w = w' := by
  go_enter Tryd.func28, Tryd.ntmps28
  go_wp2
  rw [run_callFunc_extern Tryd.func37 (by kernel_rfl) (by kernel_rfl) (by kernel_rfl) (e := Extern.BytealgIndexByte.indexByte) (by kernel_rfl), Lib.run_indexByteString]
  simp only [Result.andThen]
  rw [Oper.upon_value]
  go_wp2
  go_ret
  exact ⟨by simp, rfl⟩

def boxLen (w : World) (b : Nat) : Nat := match w.cell? ⟨b, 0, none⟩ with | some (.string t) => t.size | _ => 0
theorem boxLen_eq {w : World} {b : Nat} {t : ByteArray} (h : w.cell? ⟨b, 0, none⟩ = some (.string t)) : boxLen w b = t.size := by unfold boxLen; rw [h]
theorem heap_alloc_get (w : World) (o : Obj) (k : Nat) : (w.alloc o).heap[k]? = if k = w.heap.size then some o else w.heap[k]? := by
  show (w.heap.push o)[k]? = _
  rw [Array.getElem?_push]


/-- Whether a text begins so. -/
def preB (s p : ByteArray) : Bool := p.data.toList.isPrefixOf s.data.toList

theorem pre_some (s p : ByteArray) (h : preB s p = true) : (p.size : Int) ≤ s.size ∧ s.extract 0 p.size = p := by
  have h := List.isPrefixOf_iff_prefix.1 h
  have hl := h.length_le
  simp at hl
  have hl' : p.size ≤ s.size := hl
  refine ⟨by omega, ?_⟩
  apply ByteArray.ext
  apply Array.ext'
  rw [Lib.extract_data]
  obtain ⟨t, ht⟩ := h
  rw [← ht]
  simp
theorem pre_none (s p : ByteArray) (h : preB s p = false) : ((s.extract 0 p.size).toList == p.toList) = false := by
  rw [Bool.eq_false_iff]
  intro e
  have e := eq_of_beq e
  rw [Lib.toList_data, Lib.toList_data] at e
  have : p.data.toList <+: s.data.toList := by
    refine ⟨s.data.toList.drop p.size, ?_⟩
    rw [← e, Lib.extract_data]
    simp
  unfold preB at h
  rw [List.isPrefixOf_iff_prefix.2 this] at h
  cases h

set_option maxHeartbeats 400000 in
theorem hasPre_any (s p : ByteArray) (w : World) :
    Calls Tryd.prog 38 #[.string s, .string p] w fun e w' => e = .returned (.bool (preB s p)) ∧ w' = w := by
  go_enter Tryd.func38, Tryd.ntmps38
  cases h : preB s p with
  | true =>
    obtain ⟨h1, h2⟩ := pre_some s p h
    have h3 : 0 ≤ (p.size : Int) := by omega
    go_wp2
    go_ret
    exact ⟨rfl, rfl⟩
  | false =>
    by_cases h1 : (p.size : Int) ≤ s.size
    · have h2 := pre_none s p h
      have h3 : 0 ≤ (p.size : Int) := by omega
      go_wp2
      go_ret
      exact ⟨rfl, rfl⟩
    · go_wp2
      go_ret
      exact ⟨rfl, rfl⟩

/-- What stands behind a text's beginning. -/
def restP (s p : ByteArray) : ByteArray := if preB s p then s.extract p.size s.size else s
theorem restP_some {s p : ByteArray} (h : preB s p = true) : restP s p = s.extract p.size s.size := if_pos h
theorem restP_none {s p : ByteArray} (h : preB s p = false) : restP s p = s := by unfold restP; rw [h]; rfl

set_option maxHeartbeats 400000 in
theorem slCutPre_any (s p : ByteArray) (w : World) :
    Calls Tryd.prog 29 #[.string s, .string p] w fun e w' => e = .returned (.tuple #[.string (restP s p), .bool (preB s p)]) ∧ w' = w := by
  go_enter Tryd.func29, Tryd.ntmps29
  go_wp2_with fail
  refine (hasPre_any s p _).mono ?_
  rintro e w1 ⟨rfl, rfl⟩
  cases h : preB s p with
  | true =>
    obtain ⟨h1, h2⟩ := pre_some s p h
    have h3 : 0 ≤ (p.size : Int) := by omega
    clear h2
    have HB := hide h
    have HR := hide (restP_some h)
    go_wp2
    refine bodyPost_ret (results_tmp2 rfl _ _ _) rfl ?_
    exact ⟨by rw [HR.out, HB.out]; rfl, rfl⟩
  | false =>
    have HB := hide h
    have HR := hide (restP_none h)
    go_wp2
    refine bodyPost_ret (results_tmp2 rfl _ _ _) rfl ?_
    exact ⟨by rw [HR.out, HB.out]; rfl, rfl⟩

set_option maxHeartbeats 400000 in
theorem cutPre_any (s p : ByteArray) (w : World) :
    Calls Tryd.prog 24 #[.string s, .string p] w fun e w' => e = .returned (.tuple #[.string (restP s p), .bool (preB s p)]) ∧ w' = w := by
  go_enter Tryd.func24, Tryd.ntmps24
  go_wp2_with fail
  refine (slCutPre_any s p _).mono ?_
  rintro e w1 ⟨rfl, rfl⟩
  go_wp2
  refine bodyPost_ret (results_tmp2 rfl _ _ _) rfl ?_
  exact ⟨rfl, rfl⟩

theorem last_at (s : ByteArray) (h : 0 < s.size) : (toL s).getLast? = some (s[s.size - 1]'(by omega)) := by
  have hl : (toL s).length = s.size := by simp [toL]
  rw [List.getLast?_eq_getElem?, hl, List.getElem?_eq_getElem (by omega)]; rfl

/-- Does a text end with this byte? -/
def sufB (s : ByteArray) (c : UInt8) : Bool := (toL s).getLast? == some c
theorem sufB_pos {s : ByteArray} {c : UInt8} (h : sufB s c = true) : (1 : Int) ≤ s.size := by
  rcases Nat.eq_zero_or_pos s.size with h0 | h0
  · have hl : (toL s).length = s.size := by simp [toL]
    have : toL s = [] := List.length_eq_zero_iff.1 (by omega)
    unfold sufB at h
    rw [this] at h
    cases h
  · omega
theorem suf_tail (s : ByteArray) (m : Nat) (h : m + 1 = s.size) : (s.extract m s.size).toList = [s[m]'(by omega)] := by
  have hl : s.data.toList.length = s.size := by simp
  rw [Lib.toList_data, Lib.extract_data, List.take_of_length_le (by rw [List.length_drop]; omega), List.drop_eq_getElem_cons (by omega), List.drop_of_length_le (by omega)]
  rfl
theorem sufB_last (s : ByteArray) (c : UInt8) (m : Nat) (h : m + 1 = s.size) : sufB s c = (s[m]'(by omega) == c) := by
  unfold sufB
  rw [last_at s (by omega)]
  have e : s[s.size - 1]'(by omega) = s[m]'(by omega) := by
    have : s.size - 1 = m := by omega
    simp only [this]
  rw [e]
  simp
set_option maxHeartbeats 800000 in
theorem hasSuf_any (s : ByteArray) (c : UInt8) (w : World) (hs : (s.size : Int) ≤ 9223372036854775800) :
    Calls Tryd.prog 44 #[.string s, .string ⟨#[c]⟩] w fun e w' => e = .returned (.bool (sufB s c)) ∧ w' = w := by
  by_cases h0 : (1 : Int) ≤ s.size
  · obtain ⟨m, hm⟩ : ∃ m, m = s.size - 1 := ⟨_, rfl⟩
    have hm1 : m + 1 = s.size := by omega
    have hb := sufB_last s c m hm1
    have hmi : (s.size : Int) - 1 = (m : Int) := by omega
    have hmw : IntKind.i64.wrap (m : Int) = (m : Int) := IntWalk.i64_in _ (by omega)
    have hm0 : (0 : Int) ≤ m := by omega
    have hmle : (m : Int) ≤ s.size := by omega
    have ht : ((s.extract m s.size).toList == [c]) = sufB s c := by
      rw [suf_tail s m hm1, hb]
      simp
    obtain ⟨B, hB⟩ : ∃ B, B = sufB s c := ⟨_, rfl⟩
    rw [← hB] at ht ⊢
    clear hm hm1 hb hB
    go_enter Tryd.func44, Tryd.ntmps44
    go_wp2
    go_ret
    exact ⟨rfl, rfl⟩
  · have hB := hide (show sufB s c = false by
      cases h : sufB s c with
      | false => rfl
      | true => exact absurd (sufB_pos h) h0)
    go_enter Tryd.func44, Tryd.ntmps44
    go_wp2
    go_ret
    exact ⟨by rw [hB.out]; rfl, rfl⟩

/-- A text without this byte at its end. -/
def cutE (s : ByteArray) (c : UInt8) : ByteArray := if sufB s c then s.extract 0 (s.size - 1) else s

set_option maxHeartbeats 800000 in
theorem slTrimSuf_any (s : ByteArray) (c : UInt8) (w : World) (hs : (s.size : Int) ≤ 9223372036854775800) :
    Calls Tryd.prog 32 #[.string s, .string ⟨#[c]⟩] w fun e w' => e = .returned (.string (cutE s c)) ∧ w' = w := by
  obtain ⟨B, hB⟩ : ∃ B, B = sufB s c := ⟨_, rfl⟩
  have HS := hide (hasSuf_any s c w hs)
  have hpos : B = true → (1 : Int) ≤ s.size := fun h => sufB_pos (hB ▸ h)
  unfold cutE
  obtain ⟨m, hm⟩ : ∃ m, m = s.size - 1 := ⟨_, rfl⟩
  rw [← hB] at HS ⊢
  rw [← hm]
  have HM := hide hm
  clear hB hm
  go_enter Tryd.func32, Tryd.ntmps32
  go_wp2_with fail
  refine (HS.out).mono ?_
  rintro e w1 ⟨rfl, rfl⟩
  cases B with
  | true =>
    have h1 := hpos rfl
    have hmi : (s.size : Int) - 1 = (m : Int) := by have := HM.out; omega
    have hmw : IntKind.i64.wrap (m : Int) = (m : Int) := IntWalk.i64_in _ (by omega)
    have hm0 : (0 : Int) ≤ m := by omega
    have hmle : (m : Int) ≤ s.size := by omega
    clear hpos
    go_wp2
    go_ret
    exact ⟨by simp, rfl⟩
  | false =>
    clear hpos
    go_wp2
    go_ret
    exact ⟨by simp, rfl⟩
set_option maxHeartbeats 400000 in
theorem trimSuf_any (s : ByteArray) (c : UInt8) (w : World) (hs : (s.size : Int) ≤ 9223372036854775800) :
    Calls Tryd.prog 26 #[.string s, .string ⟨#[c]⟩] w fun e w' => e = .returned (.string (cutE s c)) ∧ w' = w := by
  go_enter Tryd.func26, Tryd.ntmps26
  go_wp2_with fail
  refine (slTrimSuf_any s c _ hs).mono ?_
  rintro e w1 ⟨rfl, rfl⟩
  go_wp2
  go_ret
  exact ⟨rfl, rfl⟩

/-- What stands ahead of the first such byte, and behind it; all and nothing, if there is none. -/
theorem index_cases (l : List UInt8) (c : UInt8) : Lib.indexByte l c = -1 ∨ ∃ o : Nat, Lib.indexByte l c = o := by
  have := Lib.indexByte_ge l c
  rcases Int.lt_or_le (Lib.indexByte l c) 0 with h | h
  · exact .inl (by omega)
  · exact .inr ⟨(Lib.indexByte l c).toNat, by omega⟩
end Go.Proofs.YtggdndmjfbiaiaaDoor
