/-
  The law GlobPlain's walk.
-/
import Derived.Test.YtmdlefagkfkenaaGlobAwake
import Derived.Test.YtmdlefagkfkenaaGlobPlainMath
namespace Go.Proofs.Ytmdlefagkfkenaa
open Go.RowKit
attribute [local go_sem] World.setCell_drewN' World.alloc_drewN'

set_option maxRecDepth 100000 in
set_option maxHeartbeats 1000000 in
theorem plainLaw_long (s o : ByteArray) (w : World) (h : (32 : Int) < s.size ∨ (200 : Int) < o.size) :
    Calls Try.prog 3 #[.string s, .string o] w fun e w' => e = .returned (.bool true) ∧ Below w.heap.size w w' := by
  by_cases h1 : (32 : Int) < s.size
  · go_enter Try.func3, Try.ntmps3
    go_wp2_with fail
    refine (awake_any _).mono ?_
    rintro e w1 ⟨rfl, hb1⟩
    go_wp2
    go_ret
    exact ⟨rfl, hb1⟩
  · have h2 : (200 : Int) < o.size := by omega
    clear h
    go_enter Try.func3, Try.ntmps3
    go_wp2_with fail
    refine (awake_any _).mono ?_
    rintro e w1 ⟨rfl, hb1⟩
    go_wp2
    go_ret
    exact ⟨rfl, hb1⟩

theorem noSign_one (s : ByteArray) (k : Nat) (h : k < s.size) : noSign (s.extract k (k + 1)) = !sign s[k] := by
  unfold noSign
  rw [Lib.extract_data, drop_cons s k h, show k + 1 - k = 1 by omega]
  simp

theorem str_eq (s o : ByteArray) : (o.data.toList == s.data.toList) = (s.toList == o.toList) := by
  rw [Lib.toList_data, Lib.toList_data, Bool.eq_iff_iff, beq_iff_eq, beq_iff_eq]
  exact ⟨Eq.symm, Eq.symm⟩

theorem esc_next (s b : ByteArray) (k : Nat) (hk : k < s.size) (hb : b.data.toList = escL (s.data.toList.take k)) :
    ((if sign s[k] then b ++ ByteArray.mk #[92] else b) ++ s.extract k (k + 1)).data.toList = escL (s.data.toList.take (k + 1)) := by
  have h' : k < s.data.toList.length := by simpa using hk
  have e : s.data.toList.take (k + 1) = s.data.toList.take k ++ [s.data.toList[k]] := List.take_succ_eq_append_getElem h'
  have e2 : (s.extract k (k + 1)).data.toList = [s[k]] := by
    rw [Lib.extract_data, drop_cons s k hk, show k + 1 - k = 1 by omega]
    simp
  rw [e, escL_snoc, ← hb]
  show _ = b.data.toList ++ esc1 s[k]
  unfold esc1
  have app : ∀ a c : ByteArray, (a ++ c).data.toList = a.data.toList ++ c.data.toList := fun a c => by simp
  split
  · rw [app, app, e2, List.append_assoc]; rfl
  · rw [app, e2]

set_option maxRecDepth 100000 in
set_option maxHeartbeats 2000000 in
theorem plainLaw_short (s o : ByteArray) (w : World) (h1 : ¬ (32 : Int) < s.size) (h2 : ¬ (200 : Int) < o.size) :
    Calls Try.prog 3 #[.string s, .string o] w fun e w' => e = .returned (.bool true) ∧ Below w.heap.size w w' := by
  go_enter Try.func3, Try.ntmps3
  go_wp2
  go_loopg [5, 6] s.size (fun g q i wr => ∃ (k : Nat) (b : ByteArray), i = .int .i64 k ∧ q = .string b ∧ k + g = s.size ∧ Hid (b.data.toList = escL (s.data.toList.take k)) ∧ wr = w)
  case atStart => exact ⟨0, ByteArray.empty, rfl, rfl, by omega, hide rfl, rfl⟩
  case round =>
    obtain ⟨k, b, rfl, rfl, hkg, HB, rfl⟩ := hrel
    have HG := hide hkg
    cases gk with
    | zero =>
      obtain rfl : k = s.size := by omega
      have hb : b.data.toList = escL s.data.toList := by rw [HB.out, List.take_of_length_le (by simp)]
      have hs32 : s.size ≤ 32 := by omega
      have g1 := globM_esc b s s hb hs32
      rw [beq_self_eq_true] at g1
      have g2 := (globM_esc b s o hb hs32).trans (str_eq s o)
      have g3 : noSign s = true → globM s o = (s.toList == o.toList) := fun h => by
        have hn : s.data.toList.any sign = false := by unfold noSign at h; simpa using h
        exact (globM_esc s s o (esc_plain _ hn).symm hs32).trans (str_eq s o)
      have G1 := hide g1
      have G2 := hide g2
      have G3 := hide g3
      have hss : (s.size : Int) ≤ 9223372036854775806 := by omega
      have hoo : (o.size : Int) ≤ 9223372036854775806 := by omega
      clear g1 g2 g3 HB hkg hb hs32
      cases hE : (s.toList == o.toList) with
      | true =>
        rw [hE] at G2 G3
        go_wp2_with fail
        refine (awake_any _).mono ?_
        rintro e w1 ⟨rfl, hb1⟩
        go_wp2_with fail
        refine (match_any _ _ _ hss).mono ?_
        rintro e w2 ⟨rfl, hb2⟩
        rw [G1.out]
        go_wp2_with fail
        refine (match_any _ _ _ hoo).mono ?_
        rintro e w3 ⟨rfl, hb3⟩
        rw [G2.out]
        go_wp2_with fail
        refine (plain_any _ _ hss).mono ?_
        rintro e w4 ⟨rfl, rfl⟩
        have b2 := hb1.trans (hb2.mono hb1.size)
        have b3 := b2.trans (hb3.mono b2.size)
        cases hN : noSign s with
        | false =>
          clear hN
          go_wp2
          go_ret
          exact ⟨rfl, b3⟩
        | true =>
          have G4 := hide (G3.out hN)
          clear hN
          go_wp2_with fail
          refine (match_any _ _ _ hoo).mono ?_
          rintro e w5 ⟨rfl, hb5⟩
          rw [G4.out]
          go_wp2
          go_ret
          exact ⟨rfl, b3.trans (hb5.mono b3.size)⟩
      | false =>
        rw [hE] at G2 G3
        go_wp2_with fail
        refine (awake_any _).mono ?_
        rintro e w1 ⟨rfl, hb1⟩
        go_wp2_with fail
        refine (match_any _ _ _ hss).mono ?_
        rintro e w2 ⟨rfl, hb2⟩
        rw [G1.out]
        go_wp2_with fail
        refine (match_any _ _ _ hoo).mono ?_
        rintro e w3 ⟨rfl, hb3⟩
        rw [G2.out]
        go_wp2_with fail
        refine (plain_any _ _ hss).mono ?_
        rintro e w4 ⟨rfl, rfl⟩
        have b2 := hb1.trans (hb2.mono hb1.size)
        have b3 := b2.trans (hb3.mono b2.size)
        cases hN : noSign s with
        | false =>
          clear hN
          go_wp2
          go_ret
          exact ⟨rfl, b3⟩
        | true =>
          have G4 := hide (G3.out hN)
          clear hN
          go_wp2_with fail
          refine (match_any _ _ _ hoo).mono ?_
          rintro e w5 ⟨rfl, hb5⟩
          rw [G4.out]
          go_wp2
          go_ret
          exact ⟨rfl, b3.trans (hb5.mono b3.size)⟩
    | succ g =>
      have hk : k < s.size := by omega
      have hk1 : (k : Int) < s.size := by omega
      have hp := noSign_one s k hk
      have hbs : b.size ≤ 64 := by
        have := escL_len (s.data.toList.take k)
        rw [← HB.out, ← Lib.size_eq] at this
        simp only [List.length_take] at this
        omega
      have hes : (s.extract k (k + 1)).size ≤ 1 := by simp [ByteArray.size_extract]; omega
      have HBs := HB.out
      clear HB
      have hcs : (b ++ ByteArray.mk #[92]).size ≤ 65 := by rw [ByteArray.size_append, show (ByteArray.mk #[92]).size = 1 from rfl]; omega
      go_wp2_with fail
      refine (plain_any _ _ ?_).mono ?_
      · omega
      rintro e w1 ⟨rfl, rfl⟩
      cases hsg : sign s[k] with
      | true =>
        rw [hp, hsg]
        have HB := hide (esc_next s b k hk HBs)
        rw [hsg, if_pos rfl] at HB
        clear hp hsg hkg HBs
        go_wp2
        go_roundg g
        case rel => exact ⟨k + 1, _, by go_num, rfl, by have := HG.out; omega, HB, rfl⟩
        case measure => omega
      | false =>
        rw [hp, hsg]
        have HB := hide (esc_next s b k hk HBs)
        rw [hsg, if_neg (by simp)] at HB
        clear hp hsg hkg HBs
        go_wp2
        go_roundg g
        case rel => exact ⟨k + 1, _, by go_num, rfl, by have := HG.out; omega, HB, rfl⟩
        case measure => omega
end Go.Proofs.Ytmdlefagkfkenaa
