/-
  What glob.first answers, whatever the text: what firstOf says.
-/
import Derived.Test.YthlalmehcpionaaDoorGlobFirst
import Derived.Test.YthlalmehcpionaaDoorGlobClassPlain
import Derived.Test.YthlalmehcpionaaDoorGlobClassNot
namespace Go.Proofs.YthlalmehcpionaaDoor
open Go.RowKit
attribute [local go_sem] World.setCell_drewN' World.alloc_drewN'

theorem class_any (s : ByteArray) (w : World) (h0 : 0 < s.size) (hs : (s.size : Int) ≤ 100) :
    Calls Tryd.prog 69 #[.string s] w fun e w' => e = .returned (readV (classOf s.data.toList)) ∧ Below w.heap.size w w' := by
  cases hn : Lib.hasPrefix (s.data.toList.drop 1) [33] with
  | false => exact class_plain s w h0 hs hn
  | true =>
    refine class_not s w ?_ hs hn
    have hl : s.data.toList.length = s.size := by simp
    rcases hd : s.data.toList.drop 1 with _ | ⟨c, r⟩
    · rw [hd] at hn
      cases hn
    · have := congrArg List.length hd
      simp at this
      omega

set_option maxHeartbeats 800000 in
theorem first_class (s : ByteArray) (w : World) (h0 : 0 < s.size) (hs : (s.size : Int) ≤ 100) (d3 : (s[0].toNat : Int) = 91) (hp : Lib.hasPrefix s.data.toList [42, 42] = false) :
    Calls Tryd.prog 55 #[.string s] w fun e w' => e = .returned (readV (classOf s.data.toList)) ∧ Below w.heap.size w w' := by
  have HC := hide (class_any s · h0 hs)
  obtain ⟨r, hr⟩ : ∃ r, classOf s.data.toList = r := ⟨_, rfl⟩
  rw [hr] at HC ⊢
  clear hr
  go_enter Tryd.func55, Tryd.ntmps55
  go_wp2_with fail
  refine (hasPrefix_any _ _ _).mono ?_
  rintro e w1 ⟨rfl, rfl⟩
  rw [show (ByteArray.mk #[42, 42]).data.toList = [42, 42] from rfl, hp]
  go_wp2_with fail
  refine (HC.out _).mono ?_
  rintro e w1 ⟨rfl, hb1⟩
  obtain ⟨hc, hf⟩ := bcell hb1
  have hz : w.heap.size < w1.heap.size := by have := hb1.size; simp at this; omega
  cases r with
  | none =>
    unfold readV part0
    go_wp2
    refine bodyPost_ret (v := .tuple #[.agg part0, .int .i64 0]) (by simp [results, Tryd.results55, go_sem, hc]; rfl) rfl ⟨rfl, ?_⟩
    exact fiveP hb1
  | some pn =>
    obtain ⟨⟨m, P⟩, n⟩ := pn
    unfold readV partV
    go_wp2
    refine bodyPost_ret (v := .tuple #[.agg (partV m P), .int .i64 (n : Nat)]) (by simp [results, Tryd.results55, go_sem, hc]; rfl) rfl ⟨rfl, ?_⟩
    exact fiveP hb1

theorem first_all (s : ByteArray) (w : World) (h0 : 0 < s.size) (hs : (s.size : Int) ≤ 100) :
    Calls Tryd.prog 55 #[.string s] w fun e w' => e = .returned (readV (firstOf s.data.toList)) ∧ Below w.heap.size w w' := by
  have hL := first_of s h0
  cases hp : Lib.hasPrefix s.data.toList [42, 42] with
  | true =>
    have e : firstOf s.data.toList = some ((true, spanP 0 256), 2) := by
      rw [hL] at hp ⊢
      unfold firstOf
      simp only [hp, if_true]
    rw [e]
    exact first_two s w hp
  | false =>
    have nb : ∀ d : UInt8, (s[0].toNat : Int) ≠ d.toNat → (s[0] == d) = false := fun d h => u8_ne h
    have hp' := hp
    rw [hL] at hp'
    by_cases c1 : (s[0].toNat : Int) = 42
    · have e : firstOf s.data.toList = some ((true, inNameP), 1) := by
        rw [hL]
        unfold firstOf
        have : (s[0] == 42) = true := by rw [beq_iff_eq]; exact u8_eq c1
        simp only [hp', Bool.false_eq_true, if_false, this, if_true]
      rw [e]
      exact first_star s w h0 c1 hp
    have d1 : ((s[0].toNat : Int) == 42) = false := beq_eq_false_iff_ne.2 c1
    by_cases c2 : (s[0].toNat : Int) = 63
    · have e : firstOf s.data.toList = some ((false, inNameP), 1) := by
        rw [hL]
        unfold firstOf
        have : (s[0] == 63) = true := by rw [beq_iff_eq]; exact u8_eq c2
        simp only [hp', Bool.false_eq_true, if_false, nb 42 c1, this, if_true]
      rw [e]
      exact first_any1 s w h0 c2 hp
    have d2 : ((s[0].toNat : Int) == 63) = false := beq_eq_false_iff_ne.2 c2
    by_cases c3 : (s[0].toNat : Int) = 91
    · have e : firstOf s.data.toList = classOf s.data.toList := by
        rw [hL]
        unfold firstOf
        have : (s[0] == 91) = true := by rw [beq_iff_eq]; exact u8_eq c3
        simp only [hp', Bool.false_eq_true, if_false, nb 42 c1, nb 63 c2, this, if_true]
      rw [e]
      exact first_class s w h0 hs c3 hp
    have d3 : ((s[0].toNat : Int) == 91) = false := beq_eq_false_iff_ne.2 c3
    by_cases c4 : (s[0].toNat : Int) = 92
    · have e92 : (s[0] == 92) = true := by rw [beq_iff_eq]; exact u8_eq c4
      by_cases h1 : s.size = 1
      · have e : firstOf s.data.toList = none := by
          rw [hL]
          have hd : s.data.toList.drop 1 = [] := List.drop_of_length_le (by simp; omega)
          unfold firstOf
          simp only [hp', Bool.false_eq_true, if_false, nb 42 c1, nb 63 c2, nb 91 c3, e92, if_true]
          rw [hd]
        rw [e]
        exact first_bare s w h0 c4 h1 hp
      · have h1' : 1 < s.size := by omega
        have e : firstOf s.data.toList = some ((false, spanP s[1].toNat (s[1].toNat + 1)), 2) := by
          rw [hL]
          unfold firstOf
          simp only [hp', Bool.false_eq_true, if_false, nb 42 c1, nb 63 c2, nb 91 c3, e92, if_true]
          rw [drop_cons s 1 h1']
        rw [e]
        exact first_escape s w h1' c4 hp
    have d4 : ((s[0].toNat : Int) == 92) = false := beq_eq_false_iff_ne.2 c4
    have e : firstOf s.data.toList = some ((false, spanP s[0].toNat (s[0].toNat + 1)), 1) := by
      rw [hL]
      unfold firstOf
      simp only [hp', Bool.false_eq_true, if_false, nb 42 c1, nb 63 c2, nb 91 c3, nb 92 c4]
    rw [e]
    exact first_single s w h0 d1 d2 d3 d4 hp
end Go.Proofs.YthlalmehcpionaaDoor
