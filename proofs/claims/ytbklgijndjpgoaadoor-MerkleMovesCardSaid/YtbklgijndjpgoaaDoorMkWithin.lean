/-
  The reference's Within: those that lie under a path, or those that do not.
-/
import Derived.Test.YtbklgijndjpgoaaDoorMkMoved
namespace Go.Proofs.YtbklgijndjpgoaaDoor
open Go.RowKit
set_option maxRecDepth 100000

/-- Those that lie under a path (or those that do not). -/
def sideL (p : ByteArray) (b : Bool) (l : List Nd) : List Nd := l.filter (fun n => withinB (toL n.path) (toL p) == b)
theorem side_drop (p : ByteArray) (b : Bool) (l : List Nd) (i : Nat) (n : Nd) (h : l[i]? = some n) : sideL p b (l.drop i) = (if (withinB (toL n.path) (toL p) == b) = true then [n] else []) ++ sideL p b (l.drop (i + 1)) := by
  obtain ⟨hi, rfl⟩ := List.getElem?_eq_some_iff.1 h
  rw [List.drop_eq_getElem_cons hi]
  unfold sideL
  rw [List.filter_cons]
  cases (withinB (toL (l[i]).path) (toL p) == b) <;> rfl

set_option maxHeartbeats 32000000 in
theorem refSide_any (A : Option Addr) (l : List Nd) (c : Nat) (p : ByteArray) (b : Bool) (w : World) (hA : RdN w w.heap.size A l) (hf : FewN l) (hl : (l.length : Int) ≤ 1000) (hp : (p.size : Int) ≤ 1000000) :
    Calls Tryd.prog 36 #[.slice A l.length c, .string p, .bool b] w fun e w' => ∃ v, e = .returned v ∧ NI w v (sideL p b l) w' := by
  obtain ⟨i0, hi, hz0, hz1, hz2⟩ := info_parts info_node
  have HF := hide hf
  have HA := hide hA
  obtain ⟨V, hV⟩ : ∃ V, V = sideL p b l := ⟨_, rfl⟩
  rw [← hV]
  have HQ0 := hide (show [] ++ sideL p b (l.drop 0) = V by rw [hV]; rfl)
  clear hA hf hV
  go_enter Tryd.func36, Tryd.ntmps36
  go_wp2_with fail
  go_loopg [7, 8] l.length (fun gk ov iv wr => ∃ (j : Nat) (E : Option Addr) (f : Nat) (o : List Nd), ov = .slice E o.length f ∧ iv = .int .i64 j ∧ j + gk = l.length ∧ o.length ≤ j ∧ Hid (NI w (.slice E o.length f) o wr) ∧ Hid (o ++ sideL p b (l.drop j) = V))
  case atStart => exact ⟨0, none, 0, [], rfl, rfl, by omega, by simp, hide ⟨Below.refl _ _, World.ownsRow_nil _ _ _ _⟩, HQ0⟩
  case round =>
    obtain ⟨j, E, f, o, rfl, rfl, hjg, hoj, HO, HQ⟩ := hrel
    clear HQ0
    cases gk with
    | zero =>
      have hE : V = o := by rw [← HQ.out, List.drop_of_length_le (by omega)]; simp [sideL]
      have HFin := hide (show NI w (.slice E o.length f) V wr by rw [hE]; exact HO.out)
      obtain rfl : j = l.length := by omega
      clear hE HQ HO
      go_wp2_with fail
      exact bodyPost_ret (results_tmp rfl _ _ _) rfl ⟨.slice E o.length f, rfl, HFin.out⟩
    | succ g1 =>
      have hji : (j : Int) < l.length := by omega
      have hj0 : (0 : Int) ≤ (j : Int) := by omega
      obtain ⟨n, hn⟩ : ∃ n, l[j]? = some n := ⟨_, List.getElem?_eq_getElem (by omega)⟩
      obtain ⟨ad, rfl, hlt, hnd⟩ := (HA.out.below HO.out.below (Nat.le_refl _)) j n hn
      have hltx : ad.block < wr.heap.size := Nat.lt_of_lt_of_le hlt HO.out.below.size
      have HND := hide (fun W (hb : Below wr.heap.size wr W) => hnd.below hb (by rw [add_block]; exact hltx))
      have hfew := HF.out j n hn
      have hd := HQ.out
      rw [side_drop p b l j n hn] at hd
      have hjw : IntKind.i64.wrap ((j : Int) + 1) = ((j + 1 : Nat) : Int) := by rw [IntWalk.i64_in _ (by omega)]; rfl
      have HW := hide (fun W => refWithin_any n.path p W hfew.1 hp)
      generalize withinB (toL n.path) (toL p) = u at HW hd
      obtain ⟨c0, c1, c2, c3, c4⟩ := hnd
      obtain ⟨path, kind, mode, time, data⟩ := n
      simp only at c0 c1 c2 c3 c4 HW
      clear HQ hn hfew hlt
      cases hub : (u == b) with
      | false =>
        rw [hub, if_neg (by decide), List.nil_append] at hd
        have HD := hide hd
        clear hd
        go_wp2_with (go_at_call 35; refine (HW.out _).mono ?_; rintro e w3 ⟨rfl, hb3⟩)
        have HO3 := hide (HO.out.step hb3)
        go_roundg g1
        case rel => exact ⟨j + 1, E, f, o, rfl, rfl, by omega, by omega, HO3, HD⟩
        case measure => omega
      | true =>
        rw [hub, if_pos rfl, ← List.append_assoc] at hd
        have HD := hide hd
        clear hd
        go_upto_if 23 with (go_at_call 35; refine (HW.out _).mono ?_; rintro e w3 ⟨rfl, hb3⟩)
        obtain ⟨k0, k1, k2, k3, k4⟩ := HND.out w3 hb3
        simp only at k0 k1 k2 k3 k4
        have hN3 := HO.out.step hb3
        have hb3' := (Below.refl _ w3).alloc (Nat.le_refl _) (.cells (Nd.cells ⟨path, kind, mode, time, data⟩) 34)
        have hO3 := hN3.own
        have hRn := RdN.one w3 ⟨path, kind, mode, time, data⟩ 34
        have hB3 := hN3.below.alloc hN3.below.size (.cells (Nd.cells ⟨path, kind, mode, time, data⟩) 34)
        have hsz := hB3.size
        clear hb3 hN3 hb3' c0 c1 c2 c3 c4
        go_wp2_with (at_builtin; go_loud (refine wpList_append_nodes rfl _ _ 22 rfl w.heap.size 34 i0 Tryd.underlying22 hi hz0 hz1 hz2 _ _ _ rfl (hO3.alloc _) (some ⟨w3.heap.size, 0, none⟩) _ 1 _ [⟨path, kind, mode, time, data⟩] rfl rfl hRn (by unfold maxLen; omega) (by omega) hsz ?_))
        intro v5 w5 hO5 hg5
        have hB5 := hB3.grown hg5 hB3.size (fun r e => (hO3.lt r e).1)
        obtain ⟨D, g, rfl⟩ := ownsRow_slice hO5
        have hlen6 : (o ++ [(⟨path, kind, mode, time, data⟩ : Nd)]).length = o.length + 1 := by simp
        have HO6 := hide (show NI w (.slice D (o.length + 1) g) (o ++ [⟨path, kind, mode, time, data⟩]) w5 from ⟨hB5, by rw [cellsN_app, hlen6]; exact hO5⟩)
        clear hO3 hRn hB3 hO5 hg5 hB5 hsz k0 k1 k2 k3 k4
        go_wp2_with fail
        go_roundg g1
        case rel => exact ⟨j + 1, D, g, o ++ [⟨path, kind, mode, time, data⟩], by rw [hlen6], rfl, by omega, by rw [hlen6]; omega, by rw [hlen6]; exact HO6, HD⟩
        case measure => omega
end Go.Proofs.YtbklgijndjpgoaaDoor
