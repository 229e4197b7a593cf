/-
  flittinglaw10.Small: are there few nodes?
-/
import Derived.Test.YtbklgijndjpgoaaDoorMkTree
namespace Go.Proofs.YtbklgijndjpgoaaDoor
open Go.RowKit
set_option maxRecDepth 100000

theorem small_drop (l : List Nd) (i : Nat) (n : Nd) (h : l[i]? = some n) : (l.drop i).all (fun n => decide (n.path.size ≤ 200) && decide (n.data.size ≤ 500)) = ((decide (n.path.size ≤ 200) && decide (n.data.size ≤ 500)) && (l.drop (i + 1)).all fun n => decide (n.path.size ≤ 200) && decide (n.data.size ≤ 500)) := by
  obtain ⟨hlt, e⟩ := List.getElem?_eq_some_iff.1 h
  rw [List.drop_eq_getElem_cons hlt, e]; rfl

set_option maxHeartbeats 8000000 in
theorem small_any (A : Option Addr) (l : List Nd) (c : Nat) (w : World) (hA : RdN w w.heap.size A l) :
    Calls Tryd.prog 6 #[.slice A l.length c] w fun e w' => e = .returned (.bool (smallL l)) ∧ w' = w := by
  obtain ⟨V, hV⟩ : ∃ V, V = smallL l := ⟨_, rfl⟩
  rw [← hV]
  by_cases h24 : l.length ≤ 24
  · have hq : ¬ ((24 : Int) < l.length) := by omega
    have HV := hide (show (l.drop 0).all (fun n => decide (n.path.size ≤ 200) && decide (n.data.size ≤ 500)) = V by rw [hV]; unfold smallL; rw [decide_eq_true h24]; rfl)
    clear hV
    go_enter Tryd.func6, Tryd.ntmps6
    go_wp2_with fail
    go_loopg [3] l.length (fun gk iv wr => ∃ i : Nat, iv = .int .i64 i ∧ i + gk = l.length ∧ Hid ((l.drop i).all (fun n => decide (n.path.size ≤ 200) && decide (n.data.size ≤ 500)) = V) ∧ wr = w)
    case atStart => exact ⟨0, rfl, by omega, HV, rfl⟩
    case round =>
      obtain ⟨i, rfl, hig, HB, rfl⟩ := hrel
      cases gk with
      | zero =>
        obtain rfl : i = l.length := by omega
        have HE := hide (show V = true by rw [← HB.out, List.drop_length]; rfl)
        clear HB
        go_wp2_with fail
        exact bodyPost_ret (results_tmp rfl _ _ _) rfl ⟨by rw [HE.out]; rfl, rfl⟩
      | succ g0 =>
        have hii : (i : Int) < l.length := by omega
        obtain ⟨n, hn⟩ : ∃ n, l[i]? = some n := ⟨_, List.getElem?_eq_getElem (by omega)⟩
        obtain ⟨ad, rfl, hlt, hnd⟩ := hA i n hn
        have c0 := hnd.path
        have c4 := hnd.data
        have hd := HB.out
        rw [small_drop l i n hn] at hd
        have hiw : IntKind.i64.wrap ((i : Int) + 1) = ((i + 1 : Nat) : Int) := by rw [IntWalk.i64_in _ (by omega)]; rfl
        clear HB hn hnd
        by_cases hp : (200 : Int) < n.path.size
        · have HD := hide (show V = false by rw [← hd, decide_eq_false (show ¬ n.path.size ≤ 200 by omega)]; rfl)
          clear hd
          go_wp2_with fail
          exact bodyPost_ret (results_tmp rfl _ _ _) rfl ⟨by rw [HD.out]; rfl, rfl⟩
        · by_cases hq2 : (500 : Int) < n.data.size
          · have HD := hide (show V = false by rw [← hd, decide_eq_false (show ¬ n.data.size ≤ 500 by omega), Bool.and_false]; rfl)
            clear hd
            go_wp2_with fail
            exact bodyPost_ret (results_tmp rfl _ _ _) rfl ⟨by rw [HD.out]; rfl, rfl⟩
          · have HD := hide (show (l.drop (i + 1)).all (fun n => decide (n.path.size ≤ 200) && decide (n.data.size ≤ 500)) = V by rw [← hd, decide_eq_true (show n.path.size ≤ 200 by omega), decide_eq_true (show n.data.size ≤ 500 by omega)]; rfl)
            clear hd
            go_wp2_with fail
            go_roundg g0
            case rel => exact ⟨i + 1, rfl, by omega, HD, rfl⟩
            case measure => omega
  · have hq : (24 : Int) < l.length := by omega
    have HE := hide (show V = false by rw [hV]; unfold smallL; rw [decide_eq_false h24]; rfl)
    clear hV
    go_enter Tryd.func6, Tryd.ntmps6
    go_wp2_with fail
    exact bodyPost_ret (results_tmp rfl _ _ _) rfl ⟨by rw [HE.out]; rfl, rfl⟩
end Go.Proofs.YtbklgijndjpgoaaDoor
