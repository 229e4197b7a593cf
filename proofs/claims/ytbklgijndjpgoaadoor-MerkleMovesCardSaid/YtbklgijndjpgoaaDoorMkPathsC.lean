/-
  Texts that belong together: PathUpsL, PathLast, PathMovesR, PathCutMore, RefGlue, RefMoves.
-/
import Derived.Test.YtbklgijndjpgoaaDoorMkPathsA
import Derived.Test.YtbklgijndjpgoaaDoorMkPathsB
/-
  The paths that a path is under: plain.
-/
namespace Go.Proofs.YtbklgijndjpgoaaDoor
open Go.RowKit
set_option maxRecDepth 100000

def endL (l : List (List UInt8)) : Nat := (l.map (fun x => x.length + 1)).sum
/-- The paths that a path is under. -/
def upsL (p : List UInt8) : List (List UInt8) := (List.range (namesL p).length).map fun i => p.take (endL ((namesL p).take i) - 1)

theorem upsL_len (p : List UInt8) : (upsL p).length = (namesL p).length := by simp [upsL]

theorem endL_split : ∀ l : List UInt8, endL (splitL l) = l.length + 1
  | [] => rfl
  | c :: r => by
    have ih := endL_split r
    unfold splitL
    split
    · simp [endL] at ih ⊢; omega
    · cases h : splitL r with
      | nil => exact absurd h (splitL_ne r)
      | cons a t =>
        rw [h] at ih
        simp [endL] at ih ⊢; omega

theorem endL_append (a b : List (List UInt8)) : endL (a ++ b) = endL a + endL b := by simp [endL]

theorem names_prefix (p : List UInt8) (a : List (List UInt8)) (x : List UInt8) (h : a ++ [x] <+: namesL p) :
    a.length < (namesL p).length ∧ a = (namesL p).take a.length ∧ endL a + (x.length + 1) ≤ p.length + 1 := by
  obtain ⟨t, ht⟩ := h
  refine ⟨by rw [← ht]; simp, by rw [← ht]; simp, ?_⟩
  have hs : namesL p = splitL p := by
    unfold namesL at ht ⊢
    split
    · rename_i hc; rw [if_pos hc] at ht; simp at ht
    · rfl
  have := endL_split p
  rw [← hs, ← ht, endL_append, endL_append] at this
  have e : endL [x] = x.length + 1 := by simp [endL]
  omega

theorem upsL_take (p : List UInt8) (k : Nat) (h : k < (namesL p).length) : (upsL p).take (k + 1) = (upsL p).take k ++ [p.take (endL ((namesL p).take k) - 1)] := by
  have h' : k < (upsL p).length := by rw [upsL_len]; exact h
  rw [List.take_succ_eq_append_getElem h']
  congr 1
  simp [upsL]

end Go.Proofs.YtbklgijndjpgoaaDoor
/-
  strings.LastIndexByte at a slash; paths.Parent and paths.Base.
-/
namespace Go.Proofs.YtbklgijndjpgoaaDoor
open Go.RowKit
set_option maxRecDepth 100000

/-- How many bytes up to the last slash, that one too. -/
def lastN (l : List UInt8) : Nat := (l.reverse.dropWhile (· != 47)).length
theorem lastN_snoc (l : List UInt8) (c : UInt8) : lastN (l ++ [c]) = if c = 47 then l.length + 1 else lastN l := by
  unfold lastN
  rw [List.reverse_append]
  simp only [List.reverse_cons, List.reverse_nil, List.nil_append, List.cons_append, List.dropWhile_cons]
  by_cases h : c = 47
  · subst h; simp
  · simp [h]
theorem lastN_le (l : List UInt8) : lastN l ≤ l.length := by
  unfold lastN
  have := (List.dropWhile_sublist (l := l.reverse) (fun x => x != 47)).length_le
  simpa using this

set_option maxRecDepth 100000 in
set_option maxHeartbeats 1000000 in
theorem lastByteS_any (s : ByteArray) (w : World) (hs : (s.size : Int) ≤ 9223372036854775800) :
    Calls Tryd.prog 75 #[.string s, .int .u8 47] w fun e w' => e = .returned (.int .i64 ((lastN (toL s) : Nat) - 1)) ∧ w' = w := by
  go_enter Tryd.func75, Tryd.ntmps75
  go_wp2_with fail
  go_loop [5] (fun i => ∃ k : Nat, k ≤ s.size ∧ i = .int .i64 ((k : Int) - 1) ∧ Hid (lastN (toL s) = lastN ((toL s).take k))) (fun i => (intOf i + 1).toNat)
  case atStart => exact ⟨s.size, Nat.le_refl _, rfl, hide (by rw [List.take_of_length_le]; simp [toL])⟩
  case round =>
    obtain ⟨k, hk, rfl, HA⟩ := hrel
    by_cases hk0 : k = 0
    · subst hk0
      have HZ := hide (show lastN (toL s) = 0 by rw [HA.out]; rfl)
      go_wp2_with fail
      refine bodyPost_ret (results_tmp rfl _ _ _) rfl ⟨by rw [HZ.out]; rfl, rfl⟩
    · obtain ⟨j, rfl⟩ : ∃ j, k = j + 1 := ⟨k - 1, by omega⟩
      have hj : j < s.size := by omega
      have e1 : ((j + 1 : Nat) : Int) - 1 = (j : Int) := by omega
      rw [e1]
      have hji : (j : Int) < s.size := by omega
      have hj0 : (0 : Int) ≤ j := by omega
      have l1 : j < (toL s).length := by simpa [toL] using hj
      have e2 : (toL s).take (j + 1) = (toL s).take j ++ [s[j]] := List.take_succ_eq_append_getElem l1
      have hA := HA.out
      rw [e2, lastN_snoc] at hA
      clear e1 e2 HA hk0
      by_cases hc : s[j] = 47
      · rw [if_pos hc] at hA
        have HZ := hide (show (lastN (toL s) : Int) - 1 = j by rw [hA]; simp [toL] at l1 ⊢; omega)
        have hc1 : (s[j].toNat : Int) = 47 := by rw [hc]; rfl
        clear hA hc
        go_wp2_with fail
        refine bodyPost_ret (results_tmp rfl _ _ _) rfl ⟨by rw [HZ.out]; rfl, rfl⟩
      · rw [if_neg hc] at hA
        have HZ := hide hA
        have hc1 : ¬ (s[j].toNat : Int) = 47 := fun e => hc (UInt8.toNat_inj.1 (by have : (47 : UInt8).toNat = 47 := rfl; omega))
        clear hA hc
        go_wp2_with fail
        go_round
        case rel => exact ⟨j, by omega, rfl, HZ⟩
        case measure => simp [intOf]

set_option maxHeartbeats 400000 in
theorem lastByte_any (s : ByteArray) (w : World) (hs : (s.size : Int) ≤ 9223372036854775800) :
    Calls Tryd.prog 60 #[.string s, .int .u8 47] w fun e w' => e = .returned (.int .i64 ((lastN (toL s) : Nat) - 1)) ∧ w' = w := by
  go_enter Tryd.func60, Tryd.ntmps60
  go_wp2_with fail
  refine (lastByteS_any s _ hs).mono ?_
  rintro e w1 ⟨rfl, rfl⟩
  go_wp2_with fail
  go_ret
  exact ⟨rfl, rfl⟩

/-- A path's last name, and the path without it. -/
def baseB (p : ByteArray) : ByteArray := if rightL (toL p) then p.extract (lastN (toL p)) p.size else ⟨#[]⟩
def parentOk (p : ByteArray) : Bool := !p.toList.isEmpty && rightL (toL p)
def parentB (p : ByteArray) : ByteArray := if parentOk p then p.extract 0 (lastN (toL p) - 1) else ⟨#[]⟩

set_option maxHeartbeats 1000000 in
theorem base_any (p : ByteArray) (w : World) (hp : (p.size : Int) ≤ 9223372036854775800) :
    Calls Tryd.prog 62 #[.string p] w fun e w' => e = .returned (.string (baseB p)) ∧ Below w.heap.size w w' := by
  have hl : ((lastN (toL p) : Nat) : Int) ≤ p.size := by have := lastN_le (toL p); simp [toL] at this ⊢; exact this
  go_enter Tryd.func62, Tryd.ntmps62
  go_wp2_with fail
  refine (right_any p _ hp).mono ?_
  rintro e w1 ⟨rfl, hB1⟩
  cases hr : rightL p.data.toList with
  | false =>
    have HR := hide (show baseB p = ⟨#[]⟩ by unfold baseB; rw [show rightL (toL p) = false from hr]; rfl)
    go_wp2_with fail
    refine bodyPost_ret (results_tmp rfl _ _ _) rfl ⟨by rw [HR.out]; rfl, hB1⟩
  | true =>
    have HR := hide (show baseB p = p.extract (lastN (toL p)) p.size by unfold baseB; rw [show rightL (toL p) = true from hr]; rfl)
    obtain ⟨n, hn⟩ : ∃ n, n = lastN (toL p) := ⟨_, rfl⟩
    have hlb := lastByte_any p w1 hp
    rw [← hn] at hl HR hlb
    clear hn
    have hn0 : (0 : Int) ≤ n := by omega
    go_wp2_with fail
    refine hlb.mono ?_
    rintro e w2 ⟨rfl, rfl⟩
    go_wp2_with fail
    refine bodyPost_ret (results_tmp rfl _ _ _) rfl ⟨by rw [HR.out]; rfl, hB1⟩

set_option maxHeartbeats 1000000 in
theorem parent_any (p : ByteArray) (w : World) (hp : (p.size : Int) ≤ 9223372036854775800) :
    Calls Tryd.prog 41 #[.string p] w fun e w' => e = .returned (.tuple #[.string (parentB p), .bool (parentOk p)]) ∧ Below w.heap.size w w' := by
  have hl : ((lastN (toL p) : Nat) : Int) ≤ p.size := by have := lastN_le (toL p); simp [toL] at this ⊢; exact this
  go_enter Tryd.func41, Tryd.ntmps41
  cases he : p.toList.isEmpty with
  | true =>
    have HO := hide (show parentOk p = false by unfold parentOk; rw [he]; rfl)
    go_wp2_with fail
    refine bodyPost_ret (results_tmp2 rfl _ _ _) rfl ⟨by unfold parentB; rw [HO.out]; rfl, Below.refl _ _⟩
  | false =>
    go_wp2_with fail
    refine (right_any p _ hp).mono ?_
    rintro e w1 ⟨rfl, hB1⟩
    cases hr : rightL p.data.toList with
    | false =>
      have HO := hide (show parentOk p = false by unfold parentOk; rw [he, show rightL (toL p) = false from hr]; rfl)
      go_wp2_with fail
      refine bodyPost_ret (results_tmp2 rfl _ _ _) rfl ⟨by unfold parentB; rw [HO.out]; rfl, hB1⟩
    | true =>
      have HO := hide (show parentOk p = true by unfold parentOk; rw [he, show rightL (toL p) = true from hr]; rfl)
      have HR := hide (show parentB p = p.extract 0 (lastN (toL p) - 1) by unfold parentB; rw [HO.out]; rfl)
      obtain ⟨n, hn⟩ : ∃ n, n = lastN (toL p) := ⟨_, rfl⟩
      have hlb := lastByte_any p w1 hp
      rw [← hn] at hl HR hlb
      clear hn
      go_wp2_with fail
      refine hlb.mono ?_
      rintro e w2 ⟨rfl, rfl⟩
      cases n with
      | zero =>
        have e1 : ((0 : Nat) : Int) - 1 = -1 := rfl
        rw [e1]
        clear hlb hl
        go_wp2_with fail
        refine bodyPost_ret (results_tmp2 rfl _ _ _) rfl ⟨by rw [HR.out, HO.out, show p.extract 0 (0 - 1) = ByteArray.empty by simp]; rfl, hB1⟩
      | succ m =>
        have e1 : ((m + 1 : Nat) : Int) - 1 = m := by omega
        rw [e1]
        have m0 : (0 : Int) ≤ m := by omega
        have m1 : (m : Int) ≤ p.size := by omega
        have m2 : ¬ (m : Int) < 0 := by omega
        clear hlb hl e1
        go_wp2_with fail
        refine bodyPost_ret (results_tmp2 rfl _ _ _) rfl ⟨by rw [HR.out, HO.out]; rfl, hB1⟩
end Go.Proofs.YtbklgijndjpgoaaDoor
/-
  paths.Rebase.
-/
namespace Go.Proofs.YtbklgijndjpgoaaDoor
open Go.RowKit
set_option maxRecDepth 100000

/-- Where a path goes. -/
def movedB (p a b : ByteArray) : ByteArray := if b.toList.isEmpty then restP (restB p a) ⟨#[47]⟩ else b ++ restB p a
def moveOk (p a b : ByteArray) : Bool := okB p a && rightL (toL b) && rightL (toL (movedB p a b))

def movedV (p a b : ByteArray) : ByteArray := if moveOk p a b then movedB p a b else ⟨#[]⟩

theorem restP_size (s p : ByteArray) : (restP s p).size ≤ s.size := by
  unfold restP
  split
  · simp [ByteArray.size_extract]
  · exact Nat.le_refl _
theorem restB_size (p q : ByteArray) : (restB p q).size ≤ p.size + 1 := by
  unfold restB
  split
  · exact Nat.zero_le _
  · split
    · rw [ByteArray.size_append]; show 1 + p.size ≤ p.size + 1; omega
    · have := restP_size p q; omega

set_option maxRecDepth 100000 in
set_option maxHeartbeats 1000000 in
theorem rebase_any (p a b : ByteArray) (w : World) (hp : (p.size : Int) ≤ 1000000) (ha : (a.size : Int) ≤ 1000000) (hb : (b.size : Int) ≤ 1000000) :
    Calls Tryd.prog 51 #[.string p, .string a, .string b] w fun e w' => e = .returned (.tuple #[.string (movedV p a b), .bool (moveOk p a b)]) ∧ Below w.heap.size w w' := by
  have hz : ((restB p a).size : Int) ≤ 1000001 := by have := restB_size p a; omega
  go_enter Tryd.func51, Tryd.ntmps51
  go_wp2_with fail
  refine (behind_any p a _ (by omega) (by omega)).mono ?_
  rintro e w1 ⟨rfl, hB1⟩
  cases hok : okB p a with
  | false =>
    have hm := hide (show moveOk p a b = false by unfold moveOk; rw [hok]; rfl)
    go_wp2_with fail
    refine bodyPost_ret (results_tmp2 rfl _ _ _) rfl ⟨by unfold movedV; rw [hm.out]; rfl, hB1⟩
  | true =>
    go_wp2_with fail
    refine (right_any b _ (by omega)).mono ?_
    rintro e w2 ⟨rfl, hB2⟩
    have hB := hB1.trans (hB2.mono hB1.size)
    clear hB1 hB2
    cases hr : rightL b.data.toList with
    | false =>
      have hm := hide (show moveOk p a b = false by unfold moveOk; rw [hok, show rightL (toL b) = false from hr]; rfl)
      go_wp2_with fail
      refine bodyPost_ret (results_tmp2 rfl _ _ _) rfl ⟨by unfold movedV; rw [hm.out]; rfl, hB⟩
    | true =>
      have hm0 : moveOk p a b = rightL (toL (movedB p a b)) := by unfold moveOk; rw [hok, show rightL (toL b) = true from hr]; rfl
      have HM := hide hm0
      clear hm0
      cases hbe : b.toList.isEmpty with
      | true =>
        have hv := hide (show movedB p a b = restP (restB p a) ⟨#[47]⟩ by unfold movedB; rw [hbe]; rfl)
        have hs : ((restP (restB p a) ⟨#[47]⟩).size : Int) ≤ 1000001 := by have := restP_size (restB p a) ⟨#[47]⟩; omega
        go_wp2_with fail
        refine (trimPre_any (restB p a) ⟨#[47]⟩ _).mono ?_
        rintro e w3 ⟨rfl, rfl⟩
        go_wp2_with fail
        refine (right_any _ _ (by omega)).mono ?_
        rintro e w4 ⟨rfl, hB4⟩
        have hB5 := hB.trans (hB4.mono hB.size)
        clear hB hB4
        cases hra : rightL (restP (restB p a) ⟨#[47]⟩).data.toList with
        | false =>
          have hm := hide (show moveOk p a b = false by rw [HM.out, hv.out]; exact hra)
          go_wp2_with fail
          refine bodyPost_ret (results_tmp2 rfl _ _ _) rfl ⟨by unfold movedV; rw [hm.out]; rfl, hB5⟩
        | true =>
          have hm := hide (show moveOk p a b = true by rw [HM.out, hv.out]; exact hra)
          go_wp2_with fail
          refine bodyPost_ret (results_tmp2 rfl _ _ _) rfl ⟨by unfold movedV; rw [hm.out, hv.out]; rfl, hB5⟩
      | false =>
        have hv := hide (show movedB p a b = b ++ restB p a by unfold movedB; rw [hbe]; rfl)
        have hs : ((b ++ restB p a).size : Int) ≤ 9223372036854775800 := by rw [ByteArray.size_append]; omega
        go_wp2_with fail
        refine (right_any _ _ hs).mono ?_
        rintro e w4 ⟨rfl, hB4⟩
        have hB5 := hB.trans (hB4.mono hB.size)
        clear hB hB4
        cases hra : rightL (b ++ restB p a).data.toList with
        | false =>
          have hm := hide (show moveOk p a b = false by rw [HM.out, hv.out]; exact hra)
          go_wp2_with fail
          refine bodyPost_ret (results_tmp2 rfl _ _ _) rfl ⟨by unfold movedV; rw [hm.out]; rfl, hB5⟩
        | true =>
          have hm := hide (show moveOk p a b = true by rw [HM.out, hv.out]; exact hra)
          go_wp2_with fail
          refine bodyPost_ret (results_tmp2 rfl _ _ _) rfl ⟨by unfold movedV; rw [hm.out, hv.out]; rfl, hB5⟩
end Go.Proofs.YtbklgijndjpgoaaDoor
/-
  Moves, parents, last names and the paths above, over lists of names.
-/
namespace Go.Proofs.YtbklgijndjpgoaaDoor
open Go.RowKit
set_option maxRecDepth 100000

theorem data_ext (s : ByteArray) (i j : Nat) : toL (s.extract i j) = ((toL s).take j).drop i := by unfold toL; rw [Lib.extract_data, List.drop_take]
theorem data_app (s t : ByteArray) : toL (s ++ t) = toL s ++ toL t := by simp [toL]
def movedL (p a b : List UInt8) : List (List UInt8) := cutL b ++ (cutL p).drop (cutL a).length
def withinB (p t : List UInt8) : Bool := rightL p && rightL t && (cutL t).isPrefixOf (cutL p)
theorem withinB_iff (p t : List UInt8) : withinB p t = true ↔ withinL p t := by
  rw [within_cut]; unfold withinB
  rw [Bool.and_eq_true, Bool.and_eq_true, List.isPrefixOf_iff_prefix, and_assoc]
theorem okB_eq (p t : ByteArray) : okB p t = withinB (toL p) (toL t) := by
  rw [Bool.eq_iff_iff, okB_iff, withinB_iff]
theorem restB_cut (p a : ByteArray) (h : okB p a = true) (D : List (List UInt8)) (hD : cutL (toL p) = cutL (toL a) ++ D) : toL (restB p a) = if D = [] then [] else 47 :: glueL D := by
  obtain ⟨h1, h2, h3⟩ := (okB_iff p a).1 h
  unfold restB
  rw [h1, h2]
  simp only [Bool.not_true, Bool.or_self, Bool.false_eq_true, if_false]
  by_cases ha : toL a = []
  · rw [ha, cut_nil, List.nil_append] at hD
    subst hD
    rw [(toL_empty a).2 ha]
    cases hp : p.toList.isEmpty with
    | true =>
      have hp' := (toL_empty p).1 hp
      simp only [Bool.not_true, Bool.and_false, Bool.false_eq_true, if_false]
      obtain ⟨_, b⟩ := restP_data p a [] (by rw [hp', ha]; rfl)
      rw [b, hp', cut_nil, if_pos rfl]
    | false =>
      have hp' : toL p ≠ [] := fun e => by rw [(toL_empty p).2 e] at hp; cases hp
      simp only [Bool.not_false, Bool.and_self, if_true]
      rw [data_app, cut_ne _ hp', if_neg (splitL_ne _), glue_split]; rfl
  · have he : a.toList.isEmpty = false := by
      cases h : a.toList.isEmpty with
      | false => rfl
      | true => exact absurd ((toL_empty a).1 h) ha
    rw [he]
    simp only [Bool.false_and, Bool.false_eq_true, if_false]
    obtain ⟨y, hy, hedge⟩ := h3.resolve_left ha
    obtain ⟨_, b⟩ := restP_data p a y hy
    rw [b]
    have hp' : toL p ≠ [] := by rw [hy]; simp [ha]
    rw [cut_ne _ hp', cut_ne _ ha] at hD
    rcases hedge with rfl | ⟨z, rfl⟩
    · rw [List.append_nil] at hy
      rw [hy] at hD
      have : D = [] := by
        have := congrArg List.length hD
        rw [List.length_append] at this
        exact List.eq_nil_of_length_eq_zero (by omega)
      rw [if_pos this]
    · rw [hy, split_append] at hD
      have hD := List.append_cancel_left hD
      subst hD
      rw [if_neg (splitL_ne _), glue_split]
theorem moved_of (p a b : ByteArray) (D : List (List UInt8)) (hR : toL (restB p a) = if D = [] then [] else 47 :: glueL D) : toL (movedB p a b) = glueL (cutL (toL b) ++ D) := by
  unfold movedB
  by_cases hb : toL b = []
  · rw [(toL_empty b).2 hb, if_pos rfl, hb, cut_nil, List.nil_append]
    by_cases hD : D = []
    · rw [if_pos hD] at hR
      subst hD
      unfold restP preB
      rw [show (restB p a).data.toList = [] from hR]
      rw [if_neg (by decide)]
      exact hR
    · rw [if_neg hD] at hR
      exact (restP_data (restB p a) ⟨#[47]⟩ (glueL D) (by rw [hR]; rfl)).2
  · have he : b.toList.isEmpty = false := by
      cases h : b.toList.isEmpty with
      | false => rfl
      | true => exact absurd ((toL_empty b).1 h) hb
    rw [he]
    simp only [Bool.false_eq_true, if_false]
    rw [data_app, hR, cut_ne _ hb]
    by_cases hD : D = []
    · subst hD; rw [if_pos rfl, List.append_nil, List.append_nil, glue_split]
    · rw [if_neg hD, glue_append _ _ (splitL_ne _) hD, glue_split]
theorem cut_drop {p a : List UInt8} (h : withinL p a) : cutL p = cutL a ++ (cutL p).drop (cutL a).length := by
  obtain ⟨_, _, D, hD⟩ := (within_cut p a).1 h
  rw [← hD]; simp
theorem moved_cut (p a b : ByteArray) (h : okB p a = true) : toL (movedB p a b) = glueL (movedL (toL p) (toL a) (toL b)) :=
  moved_of p a b _ (restB_cut p a h _ (cut_drop ((okB_iff p a).1 h)))
theorem movedL_names {p a b : List UInt8} (hp : rightL p = true) (hb : rightL b = true) : (movedL p a b).all nameL = true := by
  rw [right_cut, Bool.and_eq_true] at hp hb
  unfold movedL
  rw [List.all_append, hb.1, Bool.true_and, List.all_eq_true]
  exact fun x hx => List.all_eq_true.1 hp.1 x (List.mem_of_mem_drop hx)
theorem moveOk_cut (hl : letter 47 = false) (p a b : ByteArray) : moveOk p a b = (withinB (toL p) (toL a) && rightL (toL b) && decide ((movedL (toL p) (toL a) (toL b)).length ≤ 16)) := by
  unfold moveOk
  rw [okB_eq]
  cases hw : withinB (toL p) (toL a) with
  | false => rfl
  | true =>
    cases hb : rightL (toL b) with
    | false => rfl
    | true =>
      have hw' := (withinB_iff _ _).1 hw
      have hn := movedL_names (a := toL a) hw'.1 hb
      rw [moved_cut p a b (by rw [okB_eq, hw]), right_cut, cut_glue hl _ hn, hn]; simp
/-- Moved back it is as it was. -/
theorem moved_back (hl : letter 47 = false) (p a b q : List UInt8) (hw : withinL p a) (hb : rightL b = true) (hlen : (movedL p a b).length ≤ 16) (hq : q = glueL (movedL p a b)) :
    withinB q b = true ∧ rightL a = true ∧ (movedL q b a).length ≤ 16 ∧ glueL (movedL q b a) = p := by
  have hn := movedL_names (a := a) hw.1 hb
  have hc : cutL q = movedL p a b := by rw [hq, cut_glue hl _ hn]
  have hback : movedL q b a = cutL p := by
    show cutL a ++ (cutL q).drop (cutL b).length = cutL p
    rw [hc, cut_drop hw]
    unfold movedL
    rw [List.drop_left]
  refine ⟨?_, hw.2.1, ?_, ?_⟩
  · unfold withinB
    rw [right_cut q, hc, hn, hb, decide_eq_true hlen]
    simp [movedL]
  · have := hw.1
    rw [right_cut, Bool.and_eq_true, decide_eq_true_eq] at this
    rw [hback]; exact this.2
  · rw [hback, glue_cut]

theorem glue_len : ∀ a : List (List UInt8), a ≠ [] → (glueL a).length + 1 = endL a
  | [], h => absurd rfl h
  | [x], _ => by simp [glueL, endL]
  | x :: y :: r, _ => by
    have := glue_len (y :: r) (by simp)
    rw [glue_cons _ _ (by simp)]
    simp [endL] at this ⊢
    omega
theorem take_glue (l : List UInt8) (a r : List (List UInt8)) (h : splitL l = a ++ r) (hr : r ≠ []) : l.take (endL a - 1) = glueL a := by
  by_cases ha : a = []
  · subst ha; rfl
  · have := glue_len a ha
    have e := glue_split l
    rw [h, glue_append _ _ ha hr] at e
    rw [← e, show endL a - 1 = (glueL a).length by omega]
    simp
theorem names_split {p : List UInt8} (h : namesL p ≠ []) : namesL p = splitL p := by
  unfold namesL at h ⊢
  split
  · rename_i hc; rw [if_pos hc] at h; exact absurd rfl h
  · rfl
theorem upsL_glue (p : List UInt8) : upsL p = (List.range (namesL p).length).map fun i => glueL ((namesL p).take i) := by
  unfold upsL
  apply List.map_congr_left
  intro i hi
  rw [List.mem_range] at hi
  have hne : namesL p ≠ [] := fun e => by rw [e] at hi; simp at hi
  refine take_glue p _ ((namesL p).drop i) (by rw [List.take_append_drop, names_split hne]) ?_
  intro e
  have := congrArg List.length e
  rw [List.length_drop] at this
  simp at this
  omega
theorem last_split : ∀ (n : Nat) (l : List UInt8), l.length = n → ∃ a x, splitL l = a ++ [x] ∧ x = l.drop (lastN l) ∧ l.take (lastN l - 1) = glueL a
  | 0, l, h => by
    obtain rfl : l = [] := List.eq_nil_of_length_eq_zero h
    exact ⟨[], [], rfl, rfl, rfl⟩
  | n + 1, l, h => by
    rcases List.eq_nil_or_concat l with rfl | ⟨l', c, rfl⟩
    · simp at h
    · rw [List.concat_eq_append] at h ⊢
      obtain ⟨a, x, h1, h2, h3⟩ := last_split n l' (by simpa using h)
      obtain ⟨a', x', s0, s1, s2⟩ := splitL_snoc l'
      rw [h1] at s0
      obtain ⟨rfl, hx⟩ := List.append_inj' s0 rfl
      injection hx with hx _
      subst hx
      rw [lastN_snoc]
      have hle := lastN_le l'
      by_cases hc : c = 47
      · subst hc
        rw [if_pos rfl]
        refine ⟨a ++ [x], [], s1, by rw [List.drop_of_length_le (by simp)], ?_⟩
        have := glue_split l'
        rw [h1] at this
        rw [this]; simp
      · rw [if_neg hc]
        refine ⟨a, x ++ [c], s2 c (by simpa using hc), ?_, ?_⟩
        · rw [List.drop_append_of_le_length hle, ← h2]
        · rw [List.take_append_of_le_length (by omega), h3]
theorem right_names {p : List UInt8} (hp : rightL p = true) (hne : p ≠ []) : namesL p = splitL p := by
  rw [names_cut, hp, if_pos rfl, cut_ne p hne]
theorem base_names (p : ByteArray) : toL (baseB p) = (namesL (toL p)).getLastD [] := by
  unfold baseB
  cases hr : rightL (toL p) with
  | false => rw [names_cut, hr]; rfl
  | true =>
    simp only [if_true]
    by_cases hne : toL p = []
    · rw [data_ext, hne]; simp [namesL]
    · rw [right_names hr hne]
      obtain ⟨a, x, h1, h2, _⟩ := last_split _ (toL p) rfl
      rw [h1, data_ext, List.getLastD_concat, h2, List.take_of_length_le (by simp [toL])]
theorem parent_names (p : ByteArray) : parentOk p = !(namesL (toL p)).isEmpty ∧ toL (parentB p) = glueL (namesL (toL p)).dropLast := by
  unfold parentB parentOk
  cases hr : rightL (toL p) with
  | false => rw [names_cut, hr]; simp [toL, glueL]
  | true =>
    by_cases hne : toL p = []
    · rw [(toL_empty p).2 hne, hne]; simp [toL, glueL, namesL]
    · have he : p.toList.isEmpty = false := by
        cases h : p.toList.isEmpty with
        | false => rfl
        | true => exact absurd ((toL_empty p).1 h) hne
      rw [he, right_names hr hne]
      obtain ⟨a, x, h1, h2, h3⟩ := last_split _ (toL p) rfl
      refine ⟨by rw [h1]; simp, ?_⟩
      simp only [Bool.not_false, Bool.and_self, if_true]
      rw [h1, data_ext, List.dropLast_concat, ← h3]; simp
end Go.Proofs.YtbklgijndjpgoaaDoor
/-
  The reference's Glue, Names, Parent, Base, Within.
-/
namespace Go.Proofs.YtbklgijndjpgoaaDoor
open Go.RowKit
set_option maxRecDepth 100000

theorem glue_take_succ (cs : List ByteArray) (k : Nat) (x : ByteArray) (hx : cs[k]? = some x) :
    glueL ((cs.map toL).take (k + 1)) = if k = 0 then toL x else glueL ((cs.map toL).take k) ++ 47 :: toL x := by
  obtain ⟨hlt, he⟩ := List.getElem?_eq_some_iff.1 hx
  rw [List.take_succ_eq_append_getElem (by simpa using hlt)]
  by_cases hk : k = 0
  · subst hk
    rw [if_pos rfl]; simp [he, glueL]
  · rw [if_neg hk, glue_append _ _ (by
      intro e
      rcases List.take_eq_nil_iff.1 e with h | h
      · exact hk h
      · have := congrArg List.length h
        simp at this
        subst this
        simp at hlt) (by simp)]
    simp [he, glueL]

set_option maxHeartbeats 2000000 in
theorem refGlue_any (A : Option Addr) (cs : List ByteArray) (c B : Nat) (w : World) (hA : Rd w B A cs) (hn : (cs.length : Int) ≤ 1000001) (hz : ∀ (k : Nat) (x : ByteArray), cs[k]? = some x → (x.size : Int) ≤ 1000000) :
    Calls Tryd.prog 54 #[.slice A cs.length c] w fun e w' => (∃ g : ByteArray, e = .returned (.string g) ∧ toL g = glueL (cs.map toL) ∧ (g.size : Int) ≤ 1000001 * cs.length) ∧ w' = w := by
  have HZ := hide hz
  clear hz
  go_enter Tryd.func54, Tryd.ntmps54
  go_wp2_with fail
  go_loopw [3, 4] (fun s i wr => ∃ (k : Nat) (g : ByteArray), k ≤ cs.length ∧ i = .int .i64 k ∧ s = .string g ∧ (g.size : Int) ≤ 1000001 * k ∧ Hid (toL g = glueL ((cs.map toL).take k)) ∧ wr = w) (fun _ i _ => cs.length - (intOf i).toNat)
  case atStart => exact ⟨0, ⟨#[]⟩, Nat.zero_le _, rfl, rfl, by decide, hide (by simp [glueL, toL]), rfl⟩
  case round =>
    obtain ⟨k, g, hk, rfl, rfl, hg, HG, rfl⟩ := hrel
    by_cases l1 : (k : Int) < cs.length
    · have n1 : k < cs.length := by omega
      have g1 := List.getElem?_eq_getElem n1
      obtain ⟨ad, rfl, _, hc⟩ := hA k _ g1
      have hz := HZ.out k _ g1
      have hs := glue_take_succ cs k _ g1
      clear g1
      by_cases h0 : k = 0
      · have HS := hide (show toL (g ++ cs[k]) = glueL ((cs.map toL).take (k + 1)) by
          rw [hs, if_pos h0, toL_app, HG.out, show (cs.map toL).take k = [] by rw [h0]; rfl]; rfl)
        have h0' : ¬ (0 : Int) < k := by omega
        have hgk : (g.size : Int) = 0 := by omega
        have q1 : ¬ 9223372036854775807 < g.size + cs[k].size := by omega
        clear hs h0 hgk
        go_wp2_with fail
        go_roundw
        case rel => exact ⟨k + 1, g ++ cs[k], by omega, rfl, rfl, by rw [ByteArray.size_append]; omega, HS, trivial⟩
        case measure => simp [intOf]; omega
      · have HS := hide (show toL (g ++ ⟨#[47]⟩ ++ cs[k]) = glueL ((cs.map toL).take (k + 1)) by
          rw [hs, if_neg h0, toL_app, toL_app, HG.out]; simp [toL])
        clear hs
        have h0' : (0 : Int) < k := by omega
        have q1 : ¬ 9223372036854775807 < g.size + 1 := by omega
        have q2 : ¬ 9223372036854775807 < g.size + 1 + cs[k].size := by omega
        go_wp2_with fail
        go_roundw
        case rel => exact ⟨k + 1, g ++ ⟨#[47]⟩ ++ cs[k], by omega, rfl, rfl, by rw [ByteArray.size_append, ByteArray.size_append]; show ((g.size + 1 + cs[k].size : Nat) : Int) ≤ _; omega, HS, trivial⟩
        case measure => simp [intOf]; omega
    · obtain rfl : k = cs.length := by omega
      have HF := hide (show toL g = glueL (cs.map toL) by rw [HG.out, List.take_of_length_le (by simp)])
      go_wp2_with fail
      refine bodyPost_ret (results_tmp rfl _ _ _) rfl ⟨⟨g, rfl, HF.out, by omega⟩, rfl⟩

set_option maxHeartbeats 1000000 in
theorem refNames_any (p : ByteArray) (w : World) (hp : (p.size : Int) ≤ 1000000) :
    Calls Tryd.prog 56 #[.string p] w (Cuts w (namesL (toL p))) := by
  go_enter Tryd.func56, Tryd.ntmps56
  go_wp2_with fail
  refine (refRight_any p w hp).mono ?_
  rintro e w1 ⟨rfl, hB1⟩
  cases hr : rightL (toL p) with
  | false =>
    have HN := hide (show namesL (toL p) = [] by rw [names_cut, hr]; rfl)
    go_wp2_with fail
    refine bodyPost_ret (results_tmp rfl _ _ _) rfl ⟨none, 0, [], rfl, HN.out.symm, by simp, Rd.nil _ _ _, hB1⟩
  | true =>
    have HN := hide (show namesL (toL p) = cutL (toL p) by rw [names_cut, hr]; rfl)
    go_wp2_with fail
    refine (refCut_any p w1 hp).mono ?_
    rintro e w2 ⟨A, c, cs, rfl, hcs, hcap, hR, hB2⟩
    have HC := hide hcs
    clear hcs
    go_wp2_with fail
    refine bodyPost_ret (results_tmp rfl _ _ _) rfl ⟨A, c, cs, rfl, by rw [HC.out, HN.out], hcap, hR, hB1.trans (hB2.mono hB1.size)⟩
theorem names_size {cs : List ByteArray} {p : ByteArray} (h : cs.map toL = namesL (toL p)) (hp : (p.size : Int) ≤ 1000000) : (cs.length : Int) ≤ 16 ∧ ∀ (k : Nat) (x : ByteArray), cs[k]? = some x → (x.size : Int) ≤ 1000000 := by
  constructor
  · have := namesL_len (toL p)
    rw [← h] at this
    simp at this
    omega
  · intro k x hx
    rw [names_cut] at h
    cases hr : rightL (toL p) with
    | false => rw [hr] at h; simp at h; subst h; simp at hx
    | true =>
      rw [hr] at h
      have := piece_size h hx
      simp [toL] at this
      omega
theorem Rd.take {w : World} {B : Nat} {A : Option Addr} {l : List ByteArray} (h : Rd w B A l) (k : Nat) : Rd w B A (l.take k) := fun j x hx => by
  rw [List.getElem?_take] at hx
  split at hx
  · exact h j x hx
  · cases hx

end Go.Proofs.YtbklgijndjpgoaaDoor
/-
  The reference's Glue, Names, Parent, Base, Within.
-/
namespace Go.Proofs.YtbklgijndjpgoaaDoor
open Go.RowKit
set_option maxRecDepth 100000

set_option maxHeartbeats 1000000 in
theorem refParent_any (p : ByteArray) (w : World) (hp : (p.size : Int) ≤ 1000000) :
    Calls Tryd.prog 39 #[.string p] w fun e w' => (∃ g : ByteArray, e = .returned (.tuple #[.string g, .bool (!(namesL (toL p)).isEmpty)]) ∧ toL g = glueL (namesL (toL p)).dropLast) ∧ Below w.heap.size w w' := by
  go_enter Tryd.func39, Tryd.ntmps39
  go_wp2_with fail
  refine (refNames_any p w hp).mono ?_
  rintro e w1 ⟨A, c, cs, rfl, hcs, hcap, hR, hB1⟩
  obtain ⟨hn, hz⟩ := names_size hcs hp
  have HC := hide hcs
  have HZ := hide hz
  clear hcs hz
  by_cases h0 : cs.length = 0
  · have HN := hide (show namesL (toL p) = [] by rw [← HC.out, List.eq_nil_of_length_eq_zero h0]; rfl)
    have e0 : ((cs.length : Int) == 0) = true := by simp [h0]
    clear h0
    go_wp2_with fail
    refine bodyPost_ret (results_tmp2 rfl _ _ _) rfl ⟨⟨⟨#[]⟩, by rw [HN.out]; rfl, by rw [HN.out]; rfl⟩, hB1⟩
  · have e0 : ((cs.length : Int) == 0) = false := by rw [beq_eq_false_iff_ne]; omega
    have g1 : (0 : Int) ≤ (cs.length : Int) - 1 := by omega
    have g2 : (cs.length : Int) - 1 ≤ c := by omega
    have g3 : ((cs.length : Int) - 1).toNat = cs.length - 1 := by omega
    have hne : cs ≠ [] := fun e => h0 (by rw [e]; rfl)
    have HN := hide (show (namesL (toL p)).isEmpty = false by
      rw [← HC.out]; cases cs with | nil => exact absurd rfl hne | cons => rfl)
    have HT := hide (show (cs.take (cs.length - 1)).map toL = (namesL (toL p)).dropLast by
      rw [← HC.out, List.dropLast_eq_take, List.map_take, List.length_map])
    have hG := refGlue_any A (cs.take (cs.length - 1)) c w1.heap.size w1 (hR.take _) (by simp; omega) (fun k x hx => by
      rw [List.getElem?_take] at hx
      split at hx
      · exact HZ.out k x hx
      · cases hx)
    rw [List.length_take, Nat.min_eq_left (by omega)] at hG
    have HG := hide hG
    clear hne hG h0
    go_wp2_with fail
    refine HG.out.mono ?_
    rintro e w2 ⟨⟨g, rfl, hg, _⟩, rfl⟩
    have HE := hide hg
    clear hg
    go_wp2_with fail
    refine bodyPost_ret (results_tmp2 rfl _ _ _) rfl ⟨⟨g, by rw [HN.out]; rfl, by rw [HE.out, HT.out]⟩, hB1⟩

set_option maxHeartbeats 1000000 in
theorem refBase_any (p : ByteArray) (w : World) (hp : (p.size : Int) ≤ 1000000) :
    Calls Tryd.prog 45 #[.string p] w fun e w' => (∃ g : ByteArray, e = .returned (.string g) ∧ toL g = (namesL (toL p)).getLastD []) ∧ Below w.heap.size w w' := by
  go_enter Tryd.func45, Tryd.ntmps45
  go_wp2_with fail
  refine (refNames_any p w hp).mono ?_
  rintro e w1 ⟨A, c, cs, rfl, hcs, hcap, hR, hB1⟩
  obtain ⟨hn, _⟩ := names_size hcs hp
  have HC := hide hcs
  clear hcs
  by_cases h0 : cs.length = 0
  · have HN := hide (show namesL (toL p) = [] by rw [← HC.out, List.eq_nil_of_length_eq_zero h0]; rfl)
    have e0 : ((cs.length : Int) == 0) = true := by simp [h0]
    clear h0
    go_wp2_with fail
    refine bodyPost_ret (results_tmp rfl _ _ _) rfl ⟨⟨⟨#[]⟩, rfl, by rw [HN.out]; rfl⟩, hB1⟩
  · have e0 : ((cs.length : Int) == 0) = false := by rw [beq_eq_false_iff_ne]; omega
    have n1 : cs.length - 1 < cs.length := by omega
    have g1 : (0 : Int) ≤ (cs.length : Int) - 1 := by omega
    have g2 : (cs.length : Int) - 1 < cs.length := by omega
    have g3 : ((cs.length : Int) - 1).toNat = cs.length - 1 := by omega
    obtain ⟨ad, rfl, _, hc⟩ := hR (cs.length - 1) _ (List.getElem?_eq_getElem n1)
    have HN := hide (show toL cs[cs.length - 1] = (namesL (toL p)).getLastD [] by
      have hne : cs ≠ [] := fun e => h0 (by rw [e]; rfl)
      rw [← HC.out, List.getLastD_eq_getLast?, List.getLast?_eq_getElem?, List.getElem?_map, List.length_map, List.getElem?_eq_getElem n1]
      rfl)
    clear h0
    go_wp2_with fail
    refine bodyPost_ret (results_tmp rfl _ _ _) rfl ⟨⟨cs[cs.length - 1], rfl, HN.out⟩, hB1⟩

set_option maxHeartbeats 2000000 in
theorem refWithin_any (p q : ByteArray) (w : World) (hp : (p.size : Int) ≤ 1000000) (hq : (q.size : Int) ≤ 1000000) :
    Calls Tryd.prog 35 #[.string p, .string q] w fun e w' => e = .returned (.bool (withinB (toL p) (toL q))) ∧ Below w.heap.size w w' := by
  go_enter Tryd.func35, Tryd.ntmps35
  go_wp2_with fail
  refine (refCut_any p w hp).mono ?_
  rintro e w1 ⟨A, c, cs, rfl, hcs, _, hR1, hB1⟩
  go_wp2_with fail
  refine (refCut_any q w1 hq).mono ?_
  rintro e w2 ⟨B, d, ds, rfl, hds, _, hS1, hB2'⟩
  have hB2 := hB1.trans (hB2'.mono hB1.size)
  have hR2 := (hR1.below hB2' (Nat.le_refl _)).mono hB2'.size
  have hn : (cs.length : Int) ≤ 1000001 := by
    have := cut_count (toL p)
    rw [← hcs] at this
    simp [toL] at this
    omega
  have hm : (ds.length : Int) ≤ 1000001 := by
    have := cut_count (toL q)
    rw [← hds] at this
    simp [toL] at this
    omega
  have HC := hide hcs
  have HD := hide hds
  clear hcs hds hB1 hB2' hR1
  go_wp2_with fail
  refine (refRight_any p w2 hp).mono ?_
  rintro e w3 ⟨rfl, hB3'⟩
  have hB3 := hB2.trans (hB3'.mono hB2.size)
  have hR3 := hR2.below hB3' (Nat.le_refl _)
  have hS3 := hS1.below hB3' (Nat.le_refl _)
  have hz3 := hB3'.size
  clear hB2 hB3' hR2 hS1
  cases hrp : rightL (toL p) with
  | false =>
    have HW := hide (show withinB (toL p) (toL q) = false by unfold withinB; rw [hrp]; rfl)
    go_wp2_with fail
    refine bodyPost_ret (results_tmp rfl _ _ _) rfl ⟨by rw [HW.out]; rfl, hB3⟩
  | true =>
    have HP := hide hrp
    clear hrp
    go_wp2_with fail
    refine (refRight_any q w3 hq).mono ?_
    rintro e w4 ⟨rfl, hB4'⟩
    have hB4 := hB3.trans (hB4'.mono hB3.size)
    have hR4 := (hR3.mono hz3).below hB4' (Nat.le_refl _)
    have hS4 := (hS3.mono hz3).below hB4' (Nat.le_refl _)
    have hz4 := hB4'.size
    clear hB3 hB4' hR3 hS3
    cases hrq : rightL (toL q) with
    | false =>
      have HW := hide (show withinB (toL p) (toL q) = false by unfold withinB; rw [hrq, Bool.and_false]; rfl)
      go_wp2_with fail
      refine bodyPost_ret (results_tmp rfl _ _ _) rfl ⟨by rw [HW.out]; rfl, hB4⟩
    | true =>
      have HW := hide (show withinB (toL p) (toL q) = (ds.map toL).isPrefixOf (cs.map toL) by unfold withinB; rw [hrq, HP.out, HC.out, HD.out]; rfl)
      clear hrq
      by_cases hl : (cs.length : Int) < ds.length
      · have HF := hide (show withinB (toL p) (toL q) = false by
          rw [HW.out]
          cases h : (ds.map toL).isPrefixOf (cs.map toL) with
          | false => rfl
          | true =>
            have := (List.isPrefixOf_iff_prefix.1 h).length_le
            simp at this
            omega)
        go_wp2_with fail
        refine bodyPost_ret (results_tmp rfl _ _ _) rfl ⟨by rw [HF.out]; rfl, hB4⟩
      · go_wp2_with fail
        go_loopw [7] (fun i wr => ∃ k : Nat, k ≤ ds.length ∧ i = .int .i64 k ∧ Hid (((cs.map toL).take k == (ds.map toL).take k) = true) ∧ Drew w4 wr) (fun i _ => ds.length - (intOf i).toNat)
        case atStart => exact ⟨0, Nat.zero_le _, rfl, hide (by simp), Drew.refl _⟩
        case round =>
          obtain ⟨k, hk, rfl, HE, hD⟩ := hrel
          have hBr : Below w.heap.size w wr := by obtain ⟨n, rfl⟩ := hD; exact below_drewN hB4 n
          have hRr : Rd wr w3.heap.size A cs := by obtain ⟨n, rfl⟩ := hD; exact hR4
          have hSr : Rd wr w3.heap.size B ds := by obtain ⟨n, rfl⟩ := hD; exact hS4
          clear hR4 hS4 hB4
          by_cases hlt : (k : Int) < ds.length
          · have n2 : k < ds.length := by omega
            have n1 : k < cs.length := by omega
            have hltA : (k : Int) < cs.length := by omega
            obtain ⟨ad, rfl, _, hc⟩ := hRr k _ (List.getElem?_eq_getElem n1)
            obtain ⟨bd, rfl, _, hd⟩ := hSr k _ (List.getElem?_eq_getElem n2)
            have hs := take_same cs ds k _ _ (List.getElem?_eq_getElem n1) (List.getElem?_eq_getElem n2)
            rw [HE.out, Bool.true_and] at hs
            have HS := hide hs
            clear hs
            cases he : (cs[k].toList == ds[k].toList) with
            | true =>
              have he' : (cs[k].toList != ds[k].toList) = false := by simp [bne, he]
              go_wp2_with fail
              go_quiet (fail)
              go_wp2_with fail
              go_roundw
              case rel => exact ⟨k + 1, by omega, rfl, hide (by rw [HS.out, he]), hD.step _⟩
              case measure => simp [intOf]; omega
            | false =>
              have he' : (cs[k].toList != ds[k].toList) = true := by simp [bne, he]
              have HF := hide (show withinB (toL p) (toL q) = false by
                rw [HW.out]
                cases h : (ds.map toL).isPrefixOf (cs.map toL) with
                | false => rfl
                | true =>
                  obtain ⟨t, ht⟩ := List.isPrefixOf_iff_prefix.1 h
                  have h2 := HS.out
                  rw [he, ← ht, List.take_append_of_le_length (by simp; omega)] at h2
                  simp at h2)
              go_wp2_with fail
              go_quiet (fail)
              go_wp2_with fail
              refine bodyPost_ret (results_tmp rfl _ _ _) rfl ⟨by rw [HF.out]; rfl, below_drewN hBr _⟩
          · have HF := hide (show withinB (toL p) (toL q) = true by
              rw [HW.out, List.isPrefixOf_iff_prefix]
              have h := HE.out
              rw [beq_iff_eq, List.take_of_length_le (l := ds.map toL) (by simp; omega)] at h
              rw [← h]
              exact List.take_prefix _ _)
            go_wp2_with fail
            refine bodyPost_ret (results_tmp rfl _ _ _) rfl ⟨by rw [HF.out]; rfl, hBr⟩
end Go.Proofs.YtbklgijndjpgoaaDoor
