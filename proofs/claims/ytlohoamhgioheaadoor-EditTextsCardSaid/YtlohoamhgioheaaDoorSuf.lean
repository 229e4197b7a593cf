/-
  strings.CutSuffix and strings.Cut, for one byte.
-/
import Derived.Test.YtlohoamhgioheaaDoorPathPreCut
import Derived.Test.YtlohoamhgioheaaDoorPathSplit
import Derived.Test.YtlohoamhgioheaaDoorCoreL
import Derived.Deep.QuietTactic
import Derived.BigQuiet
namespace Go.Proofs.YtlohoamhgioheaaDoor
open Go.RowKit
set_option maxRecDepth 100000

/-- Does a text end with this byte? -/
def sufB (s : ByteArray) (c : UInt8) : Bool := (toL s).getLast? == some c
theorem sufB_pos {s : ByteArray} {c : UInt8} (h : sufB s c = true) : (1 : Int) ≤ s.size := by
  rcases Nat.eq_zero_or_pos s.size with h0 | h0
  · have hl : (toL s).length = s.size := by simp [toL]
    have : toL s = [] := List.length_eq_zero_iff.1 (by omega)
    unfold sufB at h
    rw [this] at h
    cases h
  · omega
theorem suf_tail (s : ByteArray) (m : Nat) (h : m + 1 = s.size) : (s.extract m s.size).toList = [s[m]'(by omega)] := by
  have hl : s.data.toList.length = s.size := by simp
  rw [Lib.toList_data, Lib.extract_data, List.take_of_length_le (by rw [List.length_drop]; omega), List.drop_eq_getElem_cons (by omega), List.drop_of_length_le (by omega)]
  rfl
theorem sufB_last (s : ByteArray) (c : UInt8) (m : Nat) (h : m + 1 = s.size) : sufB s c = (s[m]'(by omega) == c) := by
  unfold sufB
  rw [last_at s (by omega)]
  have e : s[s.size - 1]'(by omega) = s[m]'(by omega) := by
    have : s.size - 1 = m := by omega
    simp only [this]
  rw [e]
  simp
set_option maxHeartbeats 800000 in
theorem hasSuf_any (s : ByteArray) (c : UInt8) (w : World) (hs : (s.size : Int) ≤ 9223372036854775800) :
    Calls Tryd.prog 63 #[.string s, .string ⟨#[c]⟩] w fun e w' => e = .returned (.bool (sufB s c)) ∧ w' = w := by
  by_cases h0 : (1 : Int) ≤ s.size
  · obtain ⟨m, hm⟩ : ∃ m, m = s.size - 1 := ⟨_, rfl⟩
    have hm1 : m + 1 = s.size := by omega
    have hb := sufB_last s c m hm1
    have hmi : (s.size : Int) - 1 = (m : Int) := by omega
    have hmw : IntKind.i64.wrap (m : Int) = (m : Int) := IntWalk.i64_in _ (by omega)
    have hm0 : (0 : Int) ≤ m := by omega
    have hmle : (m : Int) ≤ s.size := by omega
    have ht : ((s.extract m s.size).toList == [c]) = sufB s c := by
      rw [suf_tail s m hm1, hb]
      simp
    obtain ⟨B, hB⟩ : ∃ B, B = sufB s c := ⟨_, rfl⟩
    rw [← hB] at ht ⊢
    clear hm hm1 hb hB
    go_enter Tryd.func63, Tryd.ntmps63
    go_wp2
    go_ret
    exact ⟨rfl, rfl⟩
  · have hB := hide (show sufB s c = false by
      cases h : sufB s c with
      | false => rfl
      | true => exact absurd (sufB_pos h) h0)
    go_enter Tryd.func63, Tryd.ntmps63
    go_wp2
    go_ret
    exact ⟨by rw [hB.out]; rfl, rfl⟩

/-- A text without this byte at its end. -/
def cutE (s : ByteArray) (c : UInt8) : ByteArray := if sufB s c then s.extract 0 (s.size - 1) else s
set_option maxHeartbeats 800000 in
theorem slCutSuf_any (s : ByteArray) (c : UInt8) (w : World) (hs : (s.size : Int) ≤ 9223372036854775800) :
    Calls Tryd.prog 51 #[.string s, .string ⟨#[c]⟩] w fun e w' => e = .returned (.tuple #[.string (cutE s c), .bool (sufB s c)]) ∧ w' = w := by
  obtain ⟨B, hB⟩ : ∃ B, B = sufB s c := ⟨_, rfl⟩
  have HS := hide (hasSuf_any s c w hs)
  have hpos : B = true → (1 : Int) ≤ s.size := fun h => sufB_pos (hB ▸ h)
  unfold cutE
  obtain ⟨m, hm⟩ : ∃ m, m = s.size - 1 := ⟨_, rfl⟩
  rw [← hB] at HS ⊢
  rw [← hm]
  have HM := hide hm
  clear hB hm
  go_enter Tryd.func51, Tryd.ntmps51
  go_wp2_with fail
  refine (HS.out).mono ?_
  rintro e w1 ⟨rfl, rfl⟩
  cases B with
  | true =>
    have h1 := hpos rfl
    have hmi : (s.size : Int) - 1 = (m : Int) := by have := HM.out; omega
    have hmw : IntKind.i64.wrap (m : Int) = (m : Int) := IntWalk.i64_in _ (by omega)
    have hm0 : (0 : Int) ≤ m := by omega
    have hmle : (m : Int) ≤ s.size := by omega
    clear hpos
    go_wp2
    exact bodyPost_ret (results_tmp2 rfl _ _ _) rfl ⟨by simp, rfl⟩
  | false =>
    clear hpos
    go_wp2
    exact bodyPost_ret (results_tmp2 rfl _ _ _) rfl ⟨by simp, rfl⟩
set_option maxHeartbeats 400000 in
theorem cutSuf_any (s : ByteArray) (c : UInt8) (w : World) (hs : (s.size : Int) ≤ 9223372036854775800) :
    Calls Tryd.prog 36 #[.string s, .string ⟨#[c]⟩] w fun e w' => e = .returned (.tuple #[.string (cutE s c), .bool (sufB s c)]) ∧ w' = w := by
  go_enter Tryd.func36, Tryd.ntmps36
  go_wp2_with fail
  refine (slCutSuf_any s c _ hs).mono ?_
  rintro e w1 ⟨rfl, rfl⟩
  go_wp2
  exact bodyPost_ret (results_tmp2 rfl _ _ _) rfl ⟨rfl, rfl⟩

/-- What stands ahead of the first such byte, and behind it; all and nothing, if there is none. -/
theorem index_cases (l : List UInt8) (c : UInt8) : Lib.indexByte l c = -1 ∨ ∃ o : Nat, Lib.indexByte l c = o := by
  have := Lib.indexByte_ge l c
  rcases Int.lt_or_le (Lib.indexByte l c) 0 with h | h
  · exact .inl (by omega)
  · exact .inr ⟨(Lib.indexByte l c).toNat, by omega⟩
set_option maxHeartbeats 1600000 in
theorem slCut_some (s : ByteArray) (c : UInt8) (o : Nat) (ho : Lib.indexByte s.data.toList c = o) (w : World) (hs : (s.size : Int) ≤ 9223372036854775800) (hos : o < s.size) :
    Calls Tryd.prog 58 #[.string s, .string ⟨#[c]⟩] w fun e w' => e = .returned (.tuple #[.string (s.extract 0 o), .string (s.extract (o + 1) s.size), .bool true]) ∧ ∃ n, w' = w.drewN n := by
  have HI := hide (slIndex_any s c w)
  rw [ho] at HI
  clear ho
  have h1 : IntKind.i64.wrap ((o : Int) + 1) = ((o + 1 : Nat) : Int) := by rw [IntWalk.i64_in _ (by omega)]; rfl
  have h2 : (0 : Int) ≤ o := by omega
  have h3 : (o : Int) ≤ s.size := by omega
  have h4 : ((o + 1 : Nat) : Int) ≤ s.size := by omega
  have h5 : (0 : Int) ≤ ((o + 1 : Nat) : Int) := by omega
  go_enter Tryd.func58, Tryd.ntmps58
  go_wp2_with fail
  refine (HI.out).mono ?_
  rintro e w1 ⟨rfl, rfl⟩
  go_wp2_with fail
  go_quiet (fail)
  go_wp2
  exact bodyPost_ret (v := .tuple #[.string (s.extract 0 o), .string (s.extract (o + 1) s.size), .bool true]) (by simp [results, Tryd.results58, go_sem]) rfl ⟨rfl, _, rfl⟩
set_option maxHeartbeats 1600000 in
theorem slCut_none (s : ByteArray) (c : UInt8) (ho : Lib.indexByte s.data.toList c = -1) (w : World) :
    Calls Tryd.prog 58 #[.string s, .string ⟨#[c]⟩] w fun e w' => e = .returned (.tuple #[.string s, .string ⟨#[]⟩, .bool false]) ∧ ∃ n, w' = w.drewN n := by
  have HI := hide (slIndex_any s c w)
  rw [ho] at HI
  clear ho
  go_enter Tryd.func58, Tryd.ntmps58
  go_wp2_with fail
  refine (HI.out).mono ?_
  rintro e w1 ⟨rfl, rfl⟩
  go_wp2_with fail
  exact bodyPost_ret (v := .tuple #[.string s, .string ⟨#[]⟩, .bool false]) (by simp [results, Tryd.results58, go_sem]) rfl ⟨rfl, 0, rfl⟩
theorem index_lt {s : ByteArray} {c : UInt8} {o : Nat} (ho : Lib.indexByte s.data.toList c = o) : o < s.size := by
  have h := (Lib.indexByte_some ho).1
  have := (List.getElem?_eq_some_iff.1 h).1
  simpa using this
set_option maxHeartbeats 800000 in
theorem cut_none (s : ByteArray) (c : UInt8) (ho : Lib.indexByte s.data.toList c = -1) (w : World) :
    Calls Tryd.prog 45 #[.string s, .string ⟨#[c]⟩] w fun e w' => e = .returned (.tuple #[.string s, .string ⟨#[]⟩, .bool false]) ∧ ∃ n, w' = w.drewN n := by
  have HI := hide (slCut_none s c ho w)
  clear ho
  go_enter Tryd.func45, Tryd.ntmps45
  go_wp2_with fail
  refine (HI.out).mono ?_
  rintro e w1 ⟨rfl, n, rfl⟩
  go_wp2_with fail
  exact bodyPost_ret (v := .tuple #[.string s, .string ⟨#[]⟩, .bool false]) (by simp [results, Tryd.results45, go_sem]) rfl ⟨rfl, n, rfl⟩
set_option maxHeartbeats 800000 in
theorem cut_some (s : ByteArray) (c : UInt8) (o : Nat) (ho : Lib.indexByte s.data.toList c = o) (w : World) (hs : (s.size : Int) ≤ 9223372036854775800) :
    Calls Tryd.prog 45 #[.string s, .string ⟨#[c]⟩] w fun e w' => e = .returned (.tuple #[.string (s.extract 0 o), .string (s.extract (o + 1) s.size), .bool true]) ∧ ∃ n, w' = w.drewN n := by
  have HI := hide (slCut_some s c o ho w hs (index_lt ho))
  clear ho
  go_enter Tryd.func45, Tryd.ntmps45
  go_wp2_with fail
  refine (HI.out).mono ?_
  rintro e w1 ⟨rfl, n, rfl⟩
  go_wp2_with fail
  exact bodyPost_ret (v := .tuple #[.string (s.extract 0 o), .string (s.extract (o + 1) s.size), .bool true]) (by simp [results, Tryd.results45, go_sem]) rfl ⟨rfl, n, rfl⟩
end Go.Proofs.YtlohoamhgioheaaDoor
