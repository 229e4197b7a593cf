/-
  crc.Open, and the reference's Seal and Open.
-/
import Derived.Test.YtlbhgebjmekclaaDoorCrcSeal
import Derived.Test.YtlbhgebjmekclaaDoorClone
import Derived.Deep.RegionHeld3
import Derived.Lib.Strings
namespace Go.Proofs.YtlbhgebjmekclaaDoor
open Go.RowKit
set_option maxRecDepth 100000

theorem cofL_app (a b : List UInt8) : ofL (a ++ b) = ofL a ++ ofL b := by
  apply toL_inj
  simp [toL, ofL]
/-- A text, sealed. -/
def sealL (l : List UInt8) : List UInt8 := l ++ le4 (crcL l)
/-- What opens: the bytes, or why not. -/
def openL (l : List UInt8) : List UInt8 × Nat := if l.length < 4 then ([], 4) else if sealL (l.take (l.length - 4)) = l then (l.take (l.length - 4), 0) else ([], 12)
theorem crcL_lt (l : List UInt8) : crcL l < 4294967296 := by unfold crcL; omega

set_option maxHeartbeats 1000000 in
theorem refSeal_any (l : List UInt8) (w : World) (hl : l.length ≤ 100000) :
    Calls Tryd.prog 17 #[.string (ofL l)] w fun e w' => e = .returned (.string (ofL (sealL l))) ∧ Below w.heap.size w w' := by
  have HS := hide (fun W => refCrc_any l W (by omega))
  have HF := hide (fun W => refFour_any (crcL l) W (crcL_lt l))
  have hsz : ¬ 9223372036854775807 < (ofL l).size + (ofL (le4 (crcL l))).size := by rw [cofL_size, cofL_size, le4_len]; omega
  have HE := hide (show ofL (sealL l) = ofL l ++ ofL (le4 (crcL l)) from cofL_app _ _)
  obtain ⟨y, hy⟩ : ∃ y, y = ofL (sealL l) := ⟨_, rfl⟩
  rw [← hy] at HE ⊢
  clear hy
  generalize ofL (le4 (crcL l)) = z at HF hsz HE
  generalize crcL l = r at HS HF
  generalize ofL l = x at HS hsz HE ⊢
  go_enter Tryd.func17, Tryd.ntmps17
  go_wp2_with fail
  refine (HS.out _).mono ?_
  rintro e w2 ⟨rfl, rfl⟩
  go_wp2_with fail
  refine (HF.out _).mono ?_
  rintro e w3 ⟨rfl, hB⟩
  go_wp2_with fail
  exact bodyPost_ret (results_tmp rfl _ _ _) rfl ⟨by rw [HE.out]; rfl, hB⟩

theorem ext_take (l : List UInt8) (n : Nat) : (ofL l).extract 0 n = ofL (l.take n) := by
  apply toL_inj
  unfold toL
  rw [Lib.extract_data]
  simp [ofL]
theorem list_ne {a b : List UInt8} (h : ¬ a = b) : ((ofL a).toList == (ofL b).toList) = false := by
  rw [ByteArray.toList_eq, ByteArray.toList_eq, beq_eq_false_iff_ne]
  exact h
theorem ofL_inj {a b : List UInt8} (h : ofL a = ofL b) : a = b := by
  have := congrArg toL h
  exact this

set_option maxHeartbeats 1000000 in
theorem refOpen_any (l : List UInt8) (w : World) (hl : l.length ≤ 100000) :
    Calls Tryd.prog 29 #[.string (ofL l)] w fun e w' => e = .returned (.tuple #[.string (ofL (openL l).1), .int .i64 ((openL l).2 : Nat)]) ∧ Below w.heap.size w w' := by
  have hsz : ((ofL l).size : Int) = (l.length : Int) := by rw [cofL_size]
  by_cases h4 : l.length < 4
  · have h4i : ((ofL l).size : Int) < 4 := by omega
    have HE := hide (show openL l = ([], 4) by unfold openL; rw [if_pos h4])
    rw [HE.out]
    clear hsz h4
    go_enter Tryd.func29, Tryd.ntmps29
    go_wp2_with fail
    exact bodyPost_ret (results_tmp2 rfl _ _ _) rfl ⟨rfl, Below.refl _ _⟩
  · have h4i : ¬ ((ofL l).size : Int) < 4 := by omega
    have hbig : ((ofL l).size : Int) ≤ 100000 := by omega
    obtain ⟨n, hn⟩ : ∃ n, n = l.length - 4 := ⟨_, rfl⟩
    have hni : ((ofL l).size : Int) - 4 = (n : Int) := by omega
    have hn1 : (n : Int) ≤ (ofL l).size := by omega
    have HS := hide (fun W => refSeal_any (l.take n) W (by simp; omega))
    have HX := hide (ext_take l n)
    by_cases hs : sealL (l.take n) = l
    · have HE := hide (show openL l = (l.take n, 0) by unfold openL; rw [if_neg h4, ← hn, if_pos hs])
      rw [HE.out]
      rw [hs] at HS
      rw [← HX.out] at HS ⊢
      clear hsz h4 hs hn HE
      generalize ofL l = x at HS hn1 hni h4i hbig HX ⊢
      go_enter Tryd.func29, Tryd.ntmps29
      go_wp2_with fail
      refine (HS.out _).mono ?_
      rintro e w2 ⟨rfl, hB⟩
      go_wp2_with fail
      exact bodyPost_ret (results_tmp2 rfl _ _ _) rfl ⟨rfl, hB⟩
    · have HE := hide (show openL l = ([], 12) by unfold openL; rw [if_neg h4, ← hn, if_neg hs])
      rw [HE.out]
      have hne : ((ofL (sealL (l.take n))).toList == (ofL l).toList) = false := list_ne hs
      rw [← HX.out] at HS
      generalize ofL (sealL (l.take n)) = y at HS hne
      clear hsz h4 hs hn HE
      generalize ofL l = x at HS hn1 hni h4i hbig HX hne ⊢
      go_enter Tryd.func29, Tryd.ntmps29
      go_wp2_with fail
      refine (HS.out _).mono ?_
      rintro e w2 ⟨rfl, hB⟩
      go_wp2_with fail
      exact bodyPost_ret (results_tmp2 rfl _ _ _) rfl ⟨rfl, hB⟩
end Go.Proofs.YtlbhgebjmekclaaDoor
