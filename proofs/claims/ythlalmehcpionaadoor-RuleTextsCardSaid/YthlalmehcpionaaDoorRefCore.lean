/-
  The reference's core: a rule's pattern without the slashes at its ends.
-/
import Derived.Test.YthlalmehcpionaaDoorPathSplit
namespace Go.Proofs.YthlalmehcpionaaDoor
open Go.RowKit
set_option maxRecDepth 100000

/-- A pattern without a slash at its begin; was there one? -/
def cutH (l : List UInt8) : List UInt8 × Bool := if l.head? = some 47 then (l.drop 1, true) else (l, false)
/-- A pattern without a slash at its end; was there one? -/
def cutT (l : List UInt8) : List UInt8 × Bool := if l.getLast? = some 47 then (l.dropLast, true) else (l, false)
theorem head_at (s : ByteArray) (h : 0 < s.size) : (toL s).head? = some s[0] := by
  have h' : 0 < (toL s).length := by simpa [toL] using h
  rw [List.head?_eq_getElem?, List.getElem?_eq_getElem h']; rfl
theorem last_at (s : ByteArray) (h : 0 < s.size) : (toL s).getLast? = some (s[s.size - 1]'(by omega)) := by
  have hl : (toL s).length = s.size := by simp [toL]
  rw [List.getLast?_eq_getElem?, hl, List.getElem?_eq_getElem (by omega)]; rfl
theorem cutT_empty (s : ByteArray) (h : s.size = 0) : cutT (toL s) = (toL s, false) := by
  have hl : (toL s).length = s.size := by simp [toL]
  have : toL s = [] := List.length_eq_zero_iff.1 (by omega)
  unfold cutT
  rw [this]; rfl
theorem cutT_some (s : ByteArray) (h : 0 < s.size) (hc : s[s.size - 1]'(by omega) = 47) : cutT (toL s) = (toL (s.extract 0 (s.size - 1)), true) := by
  unfold cutT
  rw [last_at s h, hc, if_pos rfl]
  congr 1
  unfold toL
  rw [Lib.extract_data, List.dropLast_eq_take]
  simp
theorem cutT_none (s : ByteArray) (h : 0 < s.size) (hc : s[s.size - 1]'(by omega) ≠ 47) : cutT (toL s) = (toL s, false) := by
  unfold cutT
  rw [last_at s h, if_neg (by simpa using hc)]

set_option maxHeartbeats 2000000 in
theorem core_plain (s : ByteArray) (w : World) (hs : (s.size : Int) ≤ 1000000) (h : (toL s).head? ≠ some 47) :
    Calls Tryd.prog 26 #[.string s] w fun e w' => ∃ t, e = .returned (.tuple #[.string t, .bool false, .bool (cutT (toL s)).2]) ∧ toL t = (cutT (toL s)).1 ∧ w' = w := by
  by_cases h0 : s.size = 0
  · have HE := hide (cutT_empty s h0)
    have h0i : ¬ (0 : Int) < s.size := by omega
    go_enter Tryd.func26, Tryd.ntmps26
    clear h h0
    go_wp2_with fail
    exact bodyPost_ret (v := .tuple #[.string s, .bool false, .bool false]) (by simp [results, Tryd.results26, go_sem]) rfl ⟨s, by rw [HE.out], by rw [HE.out], rfl⟩
  · have hp : 0 < s.size := by omega
    have hpi : (0 : Int) < s.size := by omega
    rw [head_at s hp] at h
    have hne : ¬ (s[0].toNat : Int) = 47 := fun e => h (by rw [show s[0] = 47 from UInt8.toNat_inj.1 (by have : (47 : UInt8).toNat = 47 := rfl; omega)])
    obtain ⟨m, hm⟩ : ∃ m, m = s.size - 1 := ⟨_, rfl⟩
    have hmi : (s.size : Int) - 1 = (m : Int) := by omega
    have hmw : IntKind.i64.wrap (m : Int) = (m : Int) := IntWalk.i64_in _ (by omega)
    have hml : m < s.size := by omega
    have hmli : (m : Int) < s.size := by omega
    have hmle : (m : Int) ≤ s.size := by omega
    have hlast : s[s.size - 1]'(by omega) = s[m]'hml := by simp only [hm]
    by_cases hc : s[m]'hml = 47
    · have HE := hide (show cutT (toL s) = (toL (s.extract 0 m), true) by rw [cutT_some s hp (by rw [hlast]; exact hc), hm])
      have hci : ((s[m]'hml).toNat : Int) = 47 := by rw [hc]; rfl
      go_enter Tryd.func26, Tryd.ntmps26
      clear h h0 hc hlast hm
      go_wp2_with fail
      exact bodyPost_ret (v := .tuple #[.string (s.extract 0 m), .bool false, .bool true]) (by simp [results, Tryd.results26, go_sem]) rfl ⟨s.extract 0 m, by rw [HE.out], by rw [HE.out], rfl⟩
    · have HE := hide (cutT_none s hp (by rw [hlast]; exact hc))
      have hci : ¬ ((s[m]'hml).toNat : Int) = 47 := fun e => hc (UInt8.toNat_inj.1 (by have : (47 : UInt8).toNat = 47 := rfl; omega))
      go_enter Tryd.func26, Tryd.ntmps26
      clear h h0 hc hlast hm
      go_wp2_with fail
      exact bodyPost_ret (v := .tuple #[.string s, .bool false, .bool false]) (by simp [results, Tryd.results26, go_sem]) rfl ⟨s, by rw [HE.out], by rw [HE.out], rfl⟩
set_option maxHeartbeats 2000000 in
theorem core_slash (s t : ByteArray) (w : World) (hs : (s.size : Int) ≤ 1000000) (h1 : 0 < s.size) (h : s[0] = 47) (hx : s.extract 1 s.size = t) :
    Calls Tryd.prog 26 #[.string s] w fun e w' => ∃ u, e = .returned (.tuple #[.string u, .bool true, .bool (cutT (toL t)).2]) ∧ toL u = (cutT (toL t)).1 ∧ w' = w := by
  have p1 : (0 : Int) < s.size := by omega
  have p2 : (1 : Int) ≤ s.size := by omega
  have p3 : ((s[0]'h1).toNat : Int) = 47 := by rw [h]; rfl
  have hts : t.size = s.size - 1 := by rw [← hx]; simp
  have hti : (t.size : Int) ≤ 1000000 := by omega
  by_cases h0 : t.size = 0
  · have HE := hide (cutT_empty t h0)
    have h0i : ¬ (0 : Int) < t.size := by omega
    go_enter Tryd.func26, Tryd.ntmps26
    clear h hts h0
    go_wp2_with fail
    exact bodyPost_ret (v := .tuple #[.string t, .bool true, .bool false]) (by simp [results, Tryd.results26, go_sem]) rfl ⟨t, by rw [HE.out], by rw [HE.out], rfl⟩
  · have hp : 0 < t.size := by omega
    have hpi : (0 : Int) < t.size := by omega
    obtain ⟨m, hm⟩ : ∃ m, m = t.size - 1 := ⟨_, rfl⟩
    have hmi : (t.size : Int) - 1 = (m : Int) := by omega
    have hmw : IntKind.i64.wrap (m : Int) = (m : Int) := IntWalk.i64_in _ (by omega)
    have hml : m < t.size := by omega
    have hmli : (m : Int) < t.size := by omega
    have hmle : (m : Int) ≤ t.size := by omega
    have hlast : t[t.size - 1]'(by omega) = t[m]'hml := by simp only [hm]
    by_cases hc : t[m]'hml = 47
    · have HE := hide (show cutT (toL t) = (toL (t.extract 0 m), true) by rw [cutT_some t hp (by rw [hlast]; exact hc), hm])
      have hci : ((t[m]'hml).toNat : Int) = 47 := by rw [hc]; rfl
      go_enter Tryd.func26, Tryd.ntmps26
      clear h hts h0 hc hlast hm
      go_wp2_with fail
      exact bodyPost_ret (v := .tuple #[.string (t.extract 0 m), .bool true, .bool true]) (by simp [results, Tryd.results26, go_sem]) rfl ⟨t.extract 0 m, by rw [HE.out], by rw [HE.out], rfl⟩
    · have HE := hide (cutT_none t hp (by rw [hlast]; exact hc))
      have hci : ¬ ((t[m]'hml).toNat : Int) = 47 := fun e => hc (UInt8.toNat_inj.1 (by have : (47 : UInt8).toNat = 47 := rfl; omega))
      go_enter Tryd.func26, Tryd.ntmps26
      clear h hts h0 hc hlast hm
      go_wp2_with fail
      exact bodyPost_ret (v := .tuple #[.string t, .bool true, .bool false]) (by simp [results, Tryd.results26, go_sem]) rfl ⟨t, by rw [HE.out], by rw [HE.out], rfl⟩
theorem core_any (s : ByteArray) (w : World) (hs : (s.size : Int) ≤ 1000000) :
    Calls Tryd.prog 26 #[.string s] w fun e w' => ∃ t, e = .returned (.tuple #[.string t, .bool (cutH (toL s)).2, .bool (cutT (cutH (toL s)).1).2]) ∧ toL t = (cutT (cutH (toL s)).1).1 ∧ w' = w := by
  by_cases h : (toL s).head? = some 47
  · have h1 : 0 < s.size := by
      rcases Nat.eq_zero_or_pos s.size with h0 | h0
      · have hl : (toL s).length = s.size := by simp [toL]
        rw [List.length_eq_zero_iff.1 (show (toL s).length = 0 by omega)] at h
        cases h
      · exact h0
    have hc : s[0] = 47 := by
      rw [head_at s h1] at h
      injection h
    have e : cutH (toL s) = (toL (s.extract 1 s.size), true) := by
      unfold cutH
      rw [if_pos h]
      congr 1
      unfold toL
      rw [Lib.extract_data, List.take_of_length_le (by simp)]
    rw [e]
    exact core_slash s _ w hs h1 hc rfl
  · have e : cutH (toL s) = (toL s, false) := by unfold cutH; rw [if_neg h]
    rw [e]
    exact core_plain s w hs h
end Go.Proofs.YthlalmehcpionaaDoor
