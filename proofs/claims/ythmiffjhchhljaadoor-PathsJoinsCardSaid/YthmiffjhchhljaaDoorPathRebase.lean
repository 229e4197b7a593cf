/-
  paths.Within, Under, Reserved, Rebase.
-/
import Derived.Test.YthmiffjhchhljaaDoorPathMoves
namespace Go.Proofs.YthmiffjhchhljaaDoor
open Go.RowKit
set_option maxRecDepth 100000

set_option maxHeartbeats 400000 in
theorem within_any (p q : ByteArray) (w : World) (hp : (p.size : Int) ≤ 1000000000) (hq : (q.size : Int) ≤ 1000000000) :
    Calls Tryd.prog 32 #[.string p, .string q] w fun e w' => e = .returned (.bool (okB p q)) ∧ Below w.heap.size w w' := by
  go_enter Tryd.func32, Tryd.ntmps32
  go_wp2_with fail
  refine (behind_any p q _ hp hq).mono ?_
  rintro e w1 ⟨rfl, hB1⟩
  go_wp2_with fail
  go_ret
  exact ⟨rfl, hB1⟩

set_option maxHeartbeats 400000 in
theorem under_any (p q : ByteArray) (w : World) (hp : (p.size : Int) ≤ 1000000000) (hq : (q.size : Int) ≤ 1000000000) :
    Calls Tryd.prog 33 #[.string p, .string q] w fun e w' => e = .returned (.bool (okB p q && !(p.toList == q.toList))) ∧ Below w.heap.size w w' := by
  go_enter Tryd.func33, Tryd.ntmps33
  cases hpq : p.toList == q.toList with
  | true =>
    have HO := hide (show (okB p q && !true) = false by simp)
    go_wp2_with fail
    refine bodyPost_ret (results_tmp rfl _ _ _) rfl ⟨by simp, Below.refl _ _⟩
  | false =>
    have HO := hide (show (okB p q && !false) = okB p q by simp)
    go_wp2_with fail
    refine (within_any p q _ hp hq).mono ?_
    rintro e w1 ⟨rfl, hB1⟩
    go_wp2_with fail
    refine bodyPost_ret (results_tmp rfl _ _ _) rfl ⟨by simp, hB1⟩

set_option maxHeartbeats 400000 in
theorem reserved_any (p : ByteArray) (w : World) (hp : (p.size : Int) ≤ 1000000000) :
    Calls Tryd.prog 27 #[.string p] w fun e w' => e = .returned (.bool (okB p ⟨#[46, 102, 108, 105, 116]⟩)) ∧ Below w.heap.size w w' := by
  go_enter Tryd.func27, Tryd.ntmps27
  go_wp2_with fail
  refine (within_any p ⟨#[46, 102, 108, 105, 116]⟩ _ hp (by decide)).mono ?_
  rintro e w1 ⟨rfl, hB1⟩
  go_wp2_with fail
  go_ret
  exact ⟨rfl, hB1⟩

/-- Where a path goes. -/
def movedB (p a b : ByteArray) : ByteArray := if b.toList.isEmpty then restP (restB p a) ⟨#[47]⟩ else b ++ restB p a
def moveOk (p a b : ByteArray) : Bool := okB p a && rightL (toL b) && rightL (toL (movedB p a b))

def movedV (p a b : ByteArray) : ByteArray := if moveOk p a b then movedB p a b else ⟨#[]⟩

theorem restP_size (s p : ByteArray) : (restP s p).size ≤ s.size := by
  unfold restP
  split
  · simp [ByteArray.size_extract]
  · exact Nat.le_refl _
theorem restB_size (p q : ByteArray) : (restB p q).size ≤ p.size + 1 := by
  unfold restB
  split
  · exact Nat.zero_le _
  · split
    · rw [ByteArray.size_append]; show 1 + p.size ≤ p.size + 1; omega
    · have := restP_size p q; omega

set_option maxRecDepth 100000 in
set_option maxHeartbeats 1000000 in
theorem rebase_any (p a b : ByteArray) (w : World) (hp : (p.size : Int) ≤ 1000000) (ha : (a.size : Int) ≤ 1000000) (hb : (b.size : Int) ≤ 1000000) :
    Calls Tryd.prog 30 #[.string p, .string a, .string b] w fun e w' => e = .returned (.tuple #[.string (movedV p a b), .bool (moveOk p a b)]) ∧ Below w.heap.size w w' := by
  have hz : ((restB p a).size : Int) ≤ 1000001 := by have := restB_size p a; omega
  go_enter Tryd.func30, Tryd.ntmps30
  go_wp2_with fail
  refine (behind_any p a _ (by omega) (by omega)).mono ?_
  rintro e w1 ⟨rfl, hB1⟩
  cases hok : okB p a with
  | false =>
    have hm := hide (show moveOk p a b = false by unfold moveOk; rw [hok]; rfl)
    go_wp2_with fail
    refine bodyPost_ret (results_tmp2 rfl _ _ _) rfl ⟨by unfold movedV; rw [hm.out]; rfl, hB1⟩
  | true =>
    go_wp2_with fail
    refine (right_any b _ (by omega)).mono ?_
    rintro e w2 ⟨rfl, hB2⟩
    have hB := hB1.trans (hB2.mono hB1.size)
    clear hB1 hB2
    cases hr : rightL b.data.toList with
    | false =>
      have hm := hide (show moveOk p a b = false by unfold moveOk; rw [hok, show rightL (toL b) = false from hr]; rfl)
      go_wp2_with fail
      refine bodyPost_ret (results_tmp2 rfl _ _ _) rfl ⟨by unfold movedV; rw [hm.out]; rfl, hB⟩
    | true =>
      have hm0 : moveOk p a b = rightL (toL (movedB p a b)) := by unfold moveOk; rw [hok, show rightL (toL b) = true from hr]; rfl
      have HM := hide hm0
      clear hm0
      cases hbe : b.toList.isEmpty with
      | true =>
        have hv := hide (show movedB p a b = restP (restB p a) ⟨#[47]⟩ by unfold movedB; rw [hbe]; rfl)
        have hs : ((restP (restB p a) ⟨#[47]⟩).size : Int) ≤ 1000001 := by have := restP_size (restB p a) ⟨#[47]⟩; omega
        go_wp2_with fail
        refine (trimPre_any (restB p a) ⟨#[47]⟩ _).mono ?_
        rintro e w3 ⟨rfl, rfl⟩
        go_wp2_with fail
        refine (right_any _ _ (by omega)).mono ?_
        rintro e w4 ⟨rfl, hB4⟩
        have hB5 := hB.trans (hB4.mono hB.size)
        clear hB hB4
        cases hra : rightL (restP (restB p a) ⟨#[47]⟩).data.toList with
        | false =>
          have hm := hide (show moveOk p a b = false by rw [HM.out, hv.out]; exact hra)
          go_wp2_with fail
          refine bodyPost_ret (results_tmp2 rfl _ _ _) rfl ⟨by unfold movedV; rw [hm.out]; rfl, hB5⟩
        | true =>
          have hm := hide (show moveOk p a b = true by rw [HM.out, hv.out]; exact hra)
          go_wp2_with fail
          refine bodyPost_ret (results_tmp2 rfl _ _ _) rfl ⟨by unfold movedV; rw [hm.out, hv.out]; rfl, hB5⟩
      | false =>
        have hv := hide (show movedB p a b = b ++ restB p a by unfold movedB; rw [hbe]; rfl)
        have hs : ((b ++ restB p a).size : Int) ≤ 9223372036854775800 := by rw [ByteArray.size_append]; omega
        go_wp2_with fail
        refine (right_any _ _ hs).mono ?_
        rintro e w4 ⟨rfl, hB4⟩
        have hB5 := hB.trans (hB4.mono hB.size)
        clear hB hB4
        cases hra : rightL (b ++ restB p a).data.toList with
        | false =>
          have hm := hide (show moveOk p a b = false by rw [HM.out, hv.out]; exact hra)
          go_wp2_with fail
          refine bodyPost_ret (results_tmp2 rfl _ _ _) rfl ⟨by unfold movedV; rw [hm.out]; rfl, hB5⟩
        | true =>
          have hm := hide (show moveOk p a b = true by rw [HM.out, hv.out]; exact hra)
          go_wp2_with fail
          refine bodyPost_ret (results_tmp2 rfl _ _ _) rfl ⟨by unfold movedV; rw [hm.out, hv.out]; rfl, hB5⟩
end Go.Proofs.YthmiffjhchhljaaDoor
