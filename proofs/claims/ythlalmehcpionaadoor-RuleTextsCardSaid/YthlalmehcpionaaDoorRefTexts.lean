/-
  The reference's Text and Same.
-/
import Derived.Test.YthlalmehcpionaaDoorRefList
import Derived.Test.YthlalmehcpionaaDoorRuleLay
import Derived.Deep.QuietTactic
import Derived.BigQuiet
namespace Go.Proofs.YthlalmehcpionaaDoor
open Go.RowKit
set_option maxRecDepth 100000

/-- A rule's line. -/
def lineL (r : Bool × List UInt8) : List UInt8 := (if r.1 then 43 else 45) :: 32 :: (r.2 ++ [10])
def textsL (l : List (Bool × List UInt8)) : List UInt8 := l.flatMap lineL
theorem texts_snoc (l : List (Bool × List UInt8)) (r : Bool × List UInt8) : textsL (l ++ [r]) = textsL l ++ lineL r := by simp [textsL]
theorem rules_take (l : List (Bool × ByteArray)) (i : Nat) (r : Bool × ByteArray) (h : l[i]? = some r) : rulesL (l.take (i + 1)) = rulesL (l.take i) ++ [(r.1, toL r.2)] := by
  obtain ⟨hlt, e⟩ := List.getElem?_eq_some_iff.1 h
  rw [List.take_succ_eq_append_getElem hlt, e, rulesL_snoc]
theorem toL_two (a b : ByteArray) : toL (a ++ b) = toL a ++ toL b := by simp [toL]

set_option maxHeartbeats 4000000 in
theorem refTextR_any (A : Option Addr) (l : List (Bool × ByteArray)) (c : Nat) (w : World) (hA : RdR w w.heap.size A l) (hf : Few l) (hl : (l.length : Int) ≤ 1000000) :
    Calls Tryd.prog 23 #[.slice A l.length c] w fun e w' => (∃ g : ByteArray, e = .returned (.string g) ∧ toL g = textsL (rulesL l)) ∧ w' = w := by
  have HF := hide hf
  clear hf
  go_enter Tryd.func23, Tryd.ntmps23
  go_wp2_with fail
  go_loopg [3, 4] l.length (fun gk sv iv wr => ∃ (i : Nat) (g : ByteArray), iv = .int .i64 i ∧ sv = .string g ∧ i + gk = l.length ∧ Hid (toL g = textsL (rulesL (l.take i))) ∧ (g.size : Int) ≤ 1000003 * i ∧ wr = w)
  case atStart => exact ⟨0, ⟨#[]⟩, rfl, rfl, by omega, hide rfl, by decide, rfl⟩
  case round =>
    obtain ⟨i, g, rfl, rfl, hig, HG, hgs, rfl⟩ := hrel
    cases gk with
    | zero =>
      obtain rfl : i = l.length := by omega
      have HE := hide (show toL g = textsL (rulesL l) by rw [HG.out, List.take_length])
      clear HG
      go_wp2_with fail
      exact bodyPost_ret (results_tmp rfl _ _ _) rfl ⟨⟨g, rfl, HE.out⟩, rfl⟩
    | succ g0 =>
      have hii : (i : Int) < l.length := by omega
      obtain ⟨r, hr⟩ : ∃ r, l[i]? = some r := ⟨_, List.getElem?_eq_getElem (by omega)⟩
      obtain ⟨ad, rfl, hlt, c0, c1⟩ := hA i r hr
      have hrs := HF.out i r hr
      have hiw : IntKind.i64.wrap ((i : Int) + 1) = ((i + 1 : Nat) : Int) := by rw [IntWalk.i64_in _ (by omega)]; rfl
      obtain ⟨kp, pat⟩ := r
      have ht := rules_take l i _ hr
      have q0 : ¬ 9223372036854775807 < g.size + 2 := by omega
      have hrs' : (pat.size : Int) ≤ 1000000 := hrs
      have q1 : ¬ 9223372036854775807 < g.size + 2 + pat.size := by omega
      have q2 : ¬ 9223372036854775807 < g.size + 2 + pat.size + 1 := by omega
      cases kp with
      | true =>
        have HT := hide (show toL (g ++ ⟨#[43, 32]⟩ ++ pat ++ ⟨#[10]⟩) = textsL (rulesL (l.take (i + 1))) by
          rw [ht, texts_snoc, toL_two, toL_two, toL_two, HG.out]
          simp [lineL, toL])
        clear ht hr HG hrs
        go_wp2_with fail
        go_roundg g0
        case rel => exact ⟨i + 1, g ++ ⟨#[43, 32]⟩ ++ pat ++ ⟨#[10]⟩, rfl, rfl, by omega, HT, by rw [ByteArray.size_append, ByteArray.size_append, ByteArray.size_append]; show ((g.size + 2 + pat.size + 1 : Nat) : Int) ≤ _; omega, rfl⟩
        case measure => omega
      | false =>
        have HT := hide (show toL (g ++ ⟨#[45, 32]⟩ ++ pat ++ ⟨#[10]⟩) = textsL (rulesL (l.take (i + 1))) by
          rw [ht, texts_snoc, toL_two, toL_two, toL_two, HG.out]
          simp [lineL, toL])
        clear ht hr HG hrs
        go_wp2_with fail
        go_roundg g0
        case rel => exact ⟨i + 1, g ++ ⟨#[45, 32]⟩ ++ pat ++ ⟨#[10]⟩, rfl, rfl, by omega, HT, by rw [ByteArray.size_append, ByteArray.size_append, ByteArray.size_append]; show ((g.size + 2 + pat.size + 1 : Nat) : Int) ≤ _; omega, rfl⟩
        case measure => omega
end Go.Proofs.YthlalmehcpionaaDoor
