/-
  The reference's Moved and Same.
-/
import Derived.Test.YtbklgijndjpgoaaDoorMkLike
import Derived.Test.YtbklgijndjpgoaaDoorRefRebase
namespace Go.Proofs.YtbklgijndjpgoaaDoor
open Go.RowKit
set_option maxRecDepth 100000

set_option maxHeartbeats 32000000 in
theorem refMoved_any (A : Option Addr) (l : List Nd) (c : Nat) (p : ByteArray) (w : World) (hA : RdN w w.heap.size A l) (hf : FewN l) (hl : (l.length : Int) ≤ 1000) (hp : (p.size : Int) ≤ 1000000) :
    Calls Tryd.prog 33 #[.slice A l.length c, .string p] w fun e w' => ∃ v, e = .returned v ∧ NI w v (undersL p l) w' := by
  obtain ⟨i0, hi, hz0, hz1, hz2⟩ := info_parts info_node
  have HF := hide hf
  have HA := hide hA
  obtain ⟨V, hV⟩ : ∃ V, V = undersL p l := ⟨_, rfl⟩
  rw [← hV]
  have HQ0 := hide (show [] ++ undersL p (l.drop 0) = V by rw [hV]; rfl)
  clear hA hf hV
  go_enter Tryd.func33, Tryd.ntmps33
  go_wp2_with fail
  go_loopg [5, 6] l.length (fun gk ov iv wr => ∃ (j : Nat) (E : Option Addr) (f : Nat) (o : List Nd), ov = .slice E o.length f ∧ iv = .int .i64 j ∧ j + gk = l.length ∧ o.length ≤ j ∧ Hid (NI w (.slice E o.length f) o wr) ∧ Hid (o ++ undersL p (l.drop j) = V))
  case atStart => exact ⟨0, none, 0, [], rfl, rfl, by omega, by simp, hide ⟨Below.refl _ _, World.ownsRow_nil _ _ _ _⟩, HQ0⟩
  case round =>
    obtain ⟨j, E, f, o, rfl, rfl, hjg, hoj, HO, HQ⟩ := hrel
    clear HQ0
    cases gk with
    | zero =>
      have hE : V = o := by rw [← HQ.out, List.drop_of_length_le (by omega)]; simp [undersL]
      have HFin := hide (show NI w (.slice E o.length f) V wr by rw [hE]; exact HO.out)
      obtain rfl : j = l.length := by omega
      clear hE HQ HO
      go_wp2_with fail
      exact bodyPost_ret (results_tmp rfl _ _ _) rfl ⟨.slice E o.length f, rfl, HFin.out⟩
    | succ g1 =>
      have hji : (j : Int) < l.length := by omega
      have hj0 : (0 : Int) ≤ (j : Int) := by omega
      obtain ⟨n, hn⟩ : ∃ n, l[j]? = some n := ⟨_, List.getElem?_eq_getElem (by omega)⟩
      obtain ⟨ad, rfl, hlt, hnd⟩ := (HA.out.below HO.out.below (Nat.le_refl _)) j n hn
      have hltx : ad.block < wr.heap.size := Nat.lt_of_lt_of_le hlt HO.out.below.size
      have HND := hide (fun W (hb : Below wr.heap.size wr W) => hnd.below hb (by rw [add_block]; exact hltx))
      have hfew := HF.out j n hn
      have hd := HQ.out
      rw [under_drop p l j n hn] at hd
      have hjw : IntKind.i64.wrap ((j : Int) + 1) = ((j + 1 : Nat) : Int) := by rw [IntWalk.i64_in _ (by omega)]; rfl
      have HReb := hide (fun W => refRebase_any n.path p ⟨#[]⟩ W hfew.1 hp (by decide))
      have hun : under p n = (moveOk n.path p ⟨#[]⟩ && !(movedV n.path p ⟨#[]⟩).toList.isEmpty) := rfl
      have hsn : seen p n = ⟨movedV n.path p ⟨#[]⟩, n.kind, 0, 0, n.data⟩ := rfl
      generalize under p n = U at hun hd
      generalize seen p n = S at hsn hd
      generalize moveOk n.path p ⟨#[]⟩ = mo at HReb hun
      generalize movedV n.path p ⟨#[]⟩ = q at HReb hun hsn
      obtain ⟨c0, c1, c2, c3, c4⟩ := hnd
      obtain ⟨path, kind, mode, time, data⟩ := n
      simp only at c0 c1 c2 c3 c4 HReb hsn
      clear HQ hn hfew hlt
      cases mo with
      | false =>
        subst hun
        rw [show (false && !q.toList.isEmpty) = false from rfl, if_neg (by decide), List.nil_append] at hd
        have HD := hide hd
        clear hd hsn
        go_wp2_with (go_at_call 37; refine (HReb.out _).mono ?_; rintro e w3 ⟨rfl, hb3⟩)
        have HO3 := hide (HO.out.step hb3)
        go_roundg g1
        case rel => exact ⟨j + 1, E, f, o, rfl, rfl, by omega, by omega, HO3, HD⟩
        case measure => omega
      | true =>
        cases hq : q.toList.isEmpty with
        | true =>
          rw [hq] at hun
          subst hun
          rw [show (true && !true) = false from rfl, if_neg (by decide), List.nil_append] at hd
          have HD := hide hd
          clear hd hsn
          have hq2 : (q.toList == []) = true := by rw [List.isEmpty_iff.1 hq]; rfl
          go_wp2_with (go_at_call 37; refine (HReb.out _).mono ?_; rintro e w3 ⟨rfl, hb3⟩)
          have HO3 := hide (HO.out.step hb3)
          go_roundg g1
          case rel => exact ⟨j + 1, E, f, o, rfl, rfl, by omega, by omega, HO3, HD⟩
          case measure => omega
        | false =>
          rw [hq] at hun
          subst hun
          rw [show (true && !false) = true from rfl, if_pos rfl, ← List.append_assoc, hsn] at hd
          have HD := hide hd
          clear hd hsn
          have hq2 : (q.toList == []) = false := by cases hc : q.toList with | nil => rw [hc] at hq; cases hq | cons a b => rfl
          go_upto_if 30 with (go_at_call 37; refine (HReb.out _).mono ?_; rintro e w3 ⟨rfl, hb3⟩)
          obtain ⟨k0, k1, k2, k3, k4⟩ := HND.out w3 hb3
          simp only at k0 k1 k2 k3 k4
          have hN3 := HO.out.step hb3
          have hb3' := (Below.refl _ w3).alloc (Nat.le_refl _) (.cells (Nd.cells ⟨q, kind, 0, 0, data⟩) 34)
          have hN4 := hN3.step hb3'
          have hO4 := hN4.own.alloc (.cells (Nd.cells ⟨q, kind, 0, 0, data⟩) 34)
          have hRn := RdN.one (w3.alloc (.cells (Nd.cells ⟨q, kind, 0, 0, data⟩) 34)) ⟨q, kind, 0, 0, data⟩ 34
          have hB4 := hN4.below.alloc hN4.below.size (.cells (Nd.cells ⟨q, kind, 0, 0, data⟩) 34)
          have hsz := hB4.size
          have e1 : (w3.alloc (.cells (Nd.cells ⟨q, kind, 0, 0, data⟩) 34)).heap.size = w3.heap.size + 1 := by simp
          rw [e1] at hRn
          clear hb3 hN3 hb3' hN4 c0 c1 c2 c3 c4
          go_wp2_with (at_builtin; go_loud (refine wpList_append_nodes rfl _ _ 22 rfl w.heap.size 34 i0 Tryd.underlying22 hi hz0 hz1 hz2 _ _ _ rfl hO4 (some ⟨w3.heap.size + 1, 0, none⟩) _ 1 _ [⟨q, kind, 0, 0, data⟩] rfl rfl hRn (by unfold maxLen; omega) (by omega) hsz ?_))
          intro v5 w5 hO5 hg5
          have hB5 := hB4.grown hg5 hB4.size (fun r e => (hO4.lt r e).1)
          obtain ⟨D, g, rfl⟩ := ownsRow_slice hO5
          have hlen6 : (o ++ [(⟨q, kind, 0, 0, data⟩ : Nd)]).length = o.length + 1 := by simp
          have HO6 := hide (show NI w (.slice D (o.length + 1) g) (o ++ [⟨q, kind, 0, 0, data⟩]) w5 from ⟨hB5, by rw [cellsN_app, hlen6]; exact hO5⟩)
          clear hO4 hRn hB4 hO5 hg5 hB5 hsz k0 k1 k2 k3 k4
          go_wp2_with fail
          go_roundg g1
          case rel => exact ⟨j + 1, D, g, o ++ [⟨q, kind, 0, 0, data⟩], by rw [hlen6], rfl, by omega, by rw [hlen6]; omega, by rw [hlen6]; exact HO6, HD⟩
          case measure => omega
end Go.Proofs.YtbklgijndjpgoaaDoor
