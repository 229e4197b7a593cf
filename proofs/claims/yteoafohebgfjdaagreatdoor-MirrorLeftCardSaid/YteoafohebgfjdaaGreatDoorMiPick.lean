/-
  tree.pick and choice.pick: a filter of nodes, by any contract of the closure.
-/
import Derived.Test.YteoafohebgfjdaaGreatDoorAutoRefCore
import Derived.Test.YteoafohebgfjdaaGreatDoorAutoPathCutMore
import Derived.Test.YteoafohebgfjdaaGreatDoorAutoRuleShut
namespace Go.Proofs.YteoafohebgfjdaaGreatDoor
open Go.RowKit
set_option maxRecDepth 100000

theorem filter_drop (g : Nd → Bool) (l : List Nd) (i : Nat) (n : Nd) (h : l[i]? = some n) : (l.drop i).filter g = (if g n = true then [n] else []) ++ (l.drop (i + 1)).filter g := by
  obtain ⟨hi, rfl⟩ := List.getElem?_eq_some_iff.1 h
  rw [List.drop_eq_getElem_cons hi, List.filter_cons]
  cases g l[i] <;> rfl
theorem FewN.filter {l : List Nd} (h : FewN l) (g : Nd → Bool) : FewN (l.filter g) := fun k m hm => by
  have := (List.mem_filter.1 (List.mem_of_getElem? hm)).1
  obtain ⟨j, hj⟩ := List.mem_iff_getElem?.1 this
  exact h j m hj
def flit : ByteArray := ⟨#[46, 102, 108, 105, 116]⟩
def resB (n : Nd) : Bool := okB n.path flit
/-- What isn't reserved. -/
def shownL (l : List Nd) : List Nd := l.filter fun n => !resB n
def shutN (R : List (Bool × List UInt8)) (n : Nd) : Bool := shutL R (toL n.path) (n.kind == 1)
def sentL (R : List (Bool × List UInt8)) (l : List Nd) : List Nd := (shownL l).filter fun n => !shutN R n
def guardL (R : List (Bool × List UInt8)) (l : List Nd) : List Nd := (shownL l).filter fun n => shutN R n

set_option maxHeartbeats 16000000 in
theorem pickShown (g : Nd → Bool) (A : Option Addr) (l : List Nd) (c : Nat) (w : World) (hA : RdN w w.heap.size A l) (hl : (l.length : Int) ≤ 1000)
    (HC0 : ∀ (n : Nd) (W : World), n ∈ l → Below w.heap.size w W → Calls Tryz.prog 66 #[.agg n.cells] W fun e w' => e = .returned (.bool (g n)) ∧ Below W.heap.size W w') :
    Calls Tryz.prog 37 #[.slice A l.length c, .func (.func 66) #[] #[]] w fun e w' => ∃ v, e = .returned v ∧ NI w v (l.filter g) w' := by
  obtain ⟨i0, hi, hz0, hz1, hz2⟩ := info_parts info_node
  obtain ⟨L, hLe⟩ : ∃ L, L = l := ⟨_, rfl⟩
  obtain ⟨V, hV⟩ : ∃ V, V = L.filter g := ⟨_, rfl⟩
  rw [← hLe] at hA hl HC0 ⊢
  rw [← hV]
  have HA := hide hA
  have HLl := hide (show ∀ n ∈ L, n ∈ L from fun _ h => h)
  have HC := hide HC0
  have HQ0 := hide (show [] ++ (L.drop 0).filter g = V by rw [hV]; rfl)
  have HB0 := hide (Below.refl w.heap.size w)
  clear hA HC0 hV hLe
  go_enter Tryz.func37, Tryz.ntmps37
  go_wp2_with fail
  go_loopg [5, 10] L.length (fun gk ov iv wr => ∃ (j : Nat) (E : Option Addr) (f : Nat) (o : List Nd), ov = .slice E o.length f ∧ iv = .int .i64 j ∧ j + gk = L.length ∧ o.length ≤ j ∧ Hid (NI w (.slice E o.length f) o wr) ∧ Hid (o ++ (L.drop j).filter g = V))
  case atStart => exact ⟨0, none, 0, [], rfl, rfl, by omega, by simp, hide ⟨Below.refl _ _, World.ownsRow_nil _ _ _ _⟩, HQ0⟩
  case round =>
    obtain ⟨j, E, f, o, rfl, rfl, hjg, hoj, HO, HQ⟩ := hrel
    clear HQ0
    cases gk with
    | zero =>
      have hE : V = o := by rw [← HQ.out, List.drop_of_length_le (by omega)]; simp
      have HFin := hide (show NI w (.slice E o.length f) V wr by rw [hE]; exact ⟨HB0.out.trans (HO.out.below.mono HB0.out.size), ownsRow_lowerN HO.out.own HB0.out.size⟩)
      obtain rfl : j = L.length := by omega
      clear hE HQ HO
      go_wp2_with fail
      exact bodyPost_ret (results_tmp rfl _ _ _) rfl ⟨.slice E o.length f, rfl, HFin.out⟩
    | succ g1 =>
      have hji : (j : Int) < L.length := by omega
      have hj0 : (0 : Int) ≤ (j : Int) := by omega
      obtain ⟨n, hn⟩ : ∃ n, L[j]? = some n := ⟨_, List.getElem?_eq_getElem (by omega)⟩
      obtain ⟨ad, rfl, hlt, hnd⟩ := (HA.out.below HO.out.below (Nat.le_refl _)) j n hn
      have hd := HQ.out
      rw [filter_drop g L j n hn] at hd
      have hjw : IntKind.i64.wrap ((j : Int) + 1) = ((j + 1 : Nat) : Int) := by rw [IntWalk.i64_in _ (by omega)]; rfl
      have HW := hide (fun W (hb : Below w.heap.size w W) => HC.out n W (HLl.out n (List.mem_of_getElem? hn)) hb)
      generalize g n = u at HW hd
      obtain ⟨c0, c1, c2, c3, c4⟩ := hnd
      have hbN := (Below.refl wr.heap.size wr).alloc (Nat.le_refl _) (.cells n.cells 36)
      have hN := World.alloc_heap_new wr (Obj.cells n.cells 36)
      obtain ⟨path, kind, mode, time, data⟩ := n
      simp only [Nd.cells] at c0 c1 c2 c3 c4 HW hbN hN
      have HBN := hide hbN
      have HN := hide hN
      clear HQ hn hlt hbN hN
      go_upto_region 5 with fail
      clear c0 c1 c2 c3 c4
      generalize wr.alloc (.cells #[.string path, .int .i64 kind, .int .i64 mode, .int .i64 time, .string data] 36) = w2 at HBN HN ⊢
      have hN := HN.out
      have c0 := cell_of_row _ _ 0 _ _ _ hN
      have c1 := cell_of_row _ _ 1 _ _ _ hN
      have c2 := cell_of_row _ _ 2 _ _ _ hN
      have c3 := cell_of_row _ _ 3 _ _ _ hN
      have c4 := cell_of_row _ _ 4 _ _ _ hN
      have HO2 := hide (HO.out.step HBN.out)
      have HCl := hide (HW.out w2 (HB0.out.trans (HO2.out.below.mono HB0.out.size)))
      clear hN HO HBN HW
      cases u with
      | false =>
        rw [if_neg (by decide), List.nil_append] at hd
        have HD := hide hd
        clear hd
        go_wp2_with (go_at_call 66; refine HCl.out.mono ?_; rintro e w3 ⟨rfl, hb3⟩)
        have HO3 := hide (HO2.out.step hb3)
        go_roundg g1
        case rel => exact ⟨j + 1, E, f, o, rfl, rfl, by omega, by omega, HO3, HD⟩
        case measure => omega
      | true =>
        rw [if_pos rfl, ← List.append_assoc] at hd
        have HD := hide hd
        clear hd
        go_upto_if 16 with (go_at_call 66; refine HCl.out.mono ?_; rintro e w3 ⟨rfl, hb3⟩)
        have hN3 := (hb3.block _ (Array.getElem?_eq_some_iff.1 HN.out).1).trans HN.out
        clear c0 c1 c2 c3 c4
        have c0 := cell_of_row _ _ 0 _ _ _ hN3
        have c1 := cell_of_row _ _ 1 _ _ _ hN3
        have c2 := cell_of_row _ _ 2 _ _ _ hN3
        have c3 := cell_of_row _ _ 3 _ _ _ hN3
        have c4 := cell_of_row _ _ 4 _ _ _ hN3
        have hO3 := (HO2.out.step hb3).own
        have hB3 := (HO2.out.step hb3).below.alloc (HO2.out.step hb3).below.size (.cells (Nd.cells ⟨path, kind, mode, time, data⟩) 36)
        have hRn := RdN.one w3 ⟨path, kind, mode, time, data⟩ 36
        have hsz := hB3.size
        clear hb3 hN3
        go_wp2_with (at_builtin; go_loud (refine wpList_append_nodes rfl _ _ 22 rfl w.heap.size 36 i0 Tryz.underlying22 hi hz0 hz1 hz2 _ _ _ rfl (hO3.alloc _) (some ⟨w3.heap.size, 0, none⟩) _ 1 _ [⟨path, kind, mode, time, data⟩] rfl rfl hRn (by unfold maxLen; omega) (by omega) hsz ?_))
        intro v5 w5 hO5 hg5
        have hB5 := hB3.grown hg5 hB3.size (fun r e => (hO3.lt r e).1)
        obtain ⟨D, gc, rfl⟩ := ownsRow_slice hO5
        have hlen6 : (o ++ [(⟨path, kind, mode, time, data⟩ : Nd)]).length = o.length + 1 := by simp
        have HO6 := hide (show NI w (.slice D (o.length + 1) gc) (o ++ [⟨path, kind, mode, time, data⟩]) w5 from ⟨hB5, by rw [cellsN_app, hlen6]; exact hO5⟩)
        clear hO3 hRn hB3 hO5 hg5 hB5 hsz c0 c1 c2 c3 c4
        go_wp2_with fail
        go_roundg g1
        case rel => exact ⟨j + 1, D, gc, o ++ [⟨path, kind, mode, time, data⟩], by rw [hlen6], rfl, by omega, by rw [hlen6]; omega, by rw [hlen6]; exact HO6, HD⟩
        case measure => omega

set_option maxHeartbeats 2000000 in
theorem shown1_any (n : Nd) (w : World) (hp : (n.path.size : Int) ≤ 1000000) :
    Calls Tryz.prog 66 #[.agg n.cells] w fun e w' => e = .returned (.bool (!resB n)) ∧ Below w.heap.size w w' := by
  obtain ⟨path, kind, mode, time, data⟩ := n
  show Calls _ _ #[.agg #[.string path, .int .i64 kind, .int .i64 mode, .int .i64 time, .string data]] _ _
  have hB0 : Below w.heap.size w (w.alloc (.cells #[.string path, .int .i64 kind, .int .i64 mode, .int .i64 time, .string data] 36)) := (Below.refl _ w).alloc (Nat.le_refl _) _
  have r0 := World.alloc_heap_new w (Obj.cells #[.string path, .int .i64 kind, .int .i64 mode, .int .i64 time, .string data] 36)
  have c0 : (w.alloc (.cells #[.string path, .int .i64 kind, .int .i64 mode, .int .i64 time, .string data] 36)).cell? ⟨w.heap.size, 0, none⟩ = some (.string path) := cell_of_row _ _ _ _ _ _ r0
  have HR := hide (reserved_any path (w.alloc (.cells #[.string path, .int .i64 kind, .int .i64 mode, .int .i64 time, .string data] 36)) (by simp only at hp; omega))
  have HB := hide hB0
  unfold resB flit
  simp only
  clear r0 hB0 hp
  go_enter Tryz.func66, Tryz.ntmps66
  go_wp2_with fail
  refine HR.out.mono ?_
  rintro e w1 ⟨rfl, hb1⟩
  have HB1 := hide (HB.out.trans (hb1.mono HB.out.size))
  clear hb1
  go_wp2_with fail
  exact bodyPost_ret (results_tmp rfl _ _ _) rfl ⟨rfl, HB1.out⟩

set_option maxHeartbeats 2000000 in
theorem shown_any (A : Option Addr) (l : List Nd) (c : Nat) (w : World) (hA : RdN w w.heap.size A l) (hf : FewN l) (hl : (l.length : Int) ≤ 1000) :
    Calls Tryz.prog 49 #[.slice A l.length c] w fun e w' => ∃ v, e = .returned v ∧ NI w v (shownL l) w' := by
  have HP := hide (pickShown (fun n => !resB n) A l c w hA hl (fun n W hn _ => by
    obtain ⟨k, hk⟩ := List.mem_iff_getElem?.1 hn
    exact shown1_any n W (hf k n hk).1))
  clear hA hf hl
  go_enter Tryz.func49, Tryz.ntmps49
  go_wp2_with fail
  refine HP.out.mono ?_
  rintro e w1 ⟨v, rfl, hN⟩
  have HN := hide hN
  clear hN
  go_wp2_with fail
  exact bodyPost_ret (results_tmp rfl _ _ _) rfl ⟨v, rfl, HN.out⟩

set_option maxHeartbeats 2000000 in
theorem choiceShut_any (A : Option Addr) (R : List (Bool × ByteArray)) (c : Nat) (n : Nd) (w : World) (hA : RdR w w.heap.size A R) (hf : Few R) (hl : (R.length : Int) ≤ 1000000) (hp : (n.path.size : Int) ≤ 1000000) :
    Calls Tryz.prog 54 #[.slice A R.length c, .agg n.cells] w fun e w' => e = .returned (.bool (shutN (rulesL R) n)) ∧ Below w.heap.size w w' := by
  obtain ⟨path, kind, mode, time, data⟩ := n
  have hB0 : Below w.heap.size w (w.alloc (.cells #[.string path, .int .i64 kind, .int .i64 mode, .int .i64 time, .string data] 36)) := (Below.refl _ w).alloc (Nat.le_refl _) _
  have r0 := World.alloc_heap_new w (Obj.cells #[.string path, .int .i64 kind, .int .i64 mode, .int .i64 time, .string data] 36)
  have c0 := cell_of_row _ _ 0 _ _ _ r0
  have c1 := cell_of_row _ _ 1 _ _ _ r0
  have c2 := cell_of_row _ _ 2 _ _ _ r0
  have c3 := cell_of_row _ _ 3 _ _ _ r0
  have c4 := cell_of_row _ _ 4 _ _ _ r0
  have HS := hide (shut_any A R c path (kind == 1) _ (hA.step hB0) hf hl hp)
  have HB := hide hB0
  show Calls _ _ #[_, .agg #[.string path, .int .i64 kind, .int .i64 mode, .int .i64 time, .string data]] _ _
  unfold shutN
  simp only
  clear r0 hB0 hp hA hf
  go_enter Tryz.func54, Tryz.ntmps54
  go_wp2_with fail
  refine HS.out.mono ?_
  rintro e w1 ⟨rfl, hb1⟩
  have HB1 := hide (HB.out.trans (hb1.mono HB.out.size))
  clear hb1
  go_wp2_with fail
  exact bodyPost_ret (results_tmp rfl _ _ _) rfl ⟨rfl, HB1.out⟩

set_option maxHeartbeats 2000000 in
theorem sent1_any (b : Nat) (A : Option Addr) (R : List (Bool × ByteArray)) (c : Nat) (n : Nd) (w : World) (hb : w.heap[b]? = some (.cells #[.slice A R.length c] 23 (0, 0))) (hA : RdR w w.heap.size A R) (hf : Few R) (hl : (R.length : Int) ≤ 1000000) (hp : (n.path.size : Int) ≤ 1000000) :
    Calls Tryz.prog 53 #[.agg n.cells, .pointer (some ⟨b, 0, none⟩)] w fun e w' => e = .returned (.bool (!shutN (rulesL R) n)) ∧ Below w.heap.size w w' := by
  obtain ⟨path, kind, mode, time, data⟩ := n
  have hB0 : Below w.heap.size w (w.alloc (.cells #[.string path, .int .i64 kind, .int .i64 mode, .int .i64 time, .string data] 36)) := (Below.refl _ w).alloc (Nat.le_refl _) _
  have r0 := World.alloc_heap_new w (Obj.cells #[.string path, .int .i64 kind, .int .i64 mode, .int .i64 time, .string data] 36)
  have c0 := cell_of_row _ _ 0 _ _ _ r0
  have c1 := cell_of_row _ _ 1 _ _ _ r0
  have c2 := cell_of_row _ _ 2 _ _ _ r0
  have c3 := cell_of_row _ _ 3 _ _ _ r0
  have c4 := cell_of_row _ _ 4 _ _ _ r0
  have HS := hide (choiceShut_any A R c ⟨path, kind, mode, time, data⟩ _ (hA.step hB0) hf hl hp)
  have cb := cell_of_row _ _ 0 _ _ _ ((hB0.block b (Array.getElem?_eq_some_iff.1 hb).1).trans hb)
  have HB := hide hB0
  show Calls _ _ #[.agg #[.string path, .int .i64 kind, .int .i64 mode, .int .i64 time, .string data], _] _ _
  generalize shutN (rulesL R) ⟨path, kind, mode, time, data⟩ = u at HS ⊢
  simp only [Nd.cells] at HS
  clear r0 hB0 hp hA hf hb
  go_enter Tryz.func53, Tryz.ntmps53
  go_wp2_with fail
  refine HS.out.mono ?_
  rintro e w1 ⟨rfl, hb1⟩
  have HB1 := hide (HB.out.trans (hb1.mono HB.out.size))
  clear hb1
  go_wp2_with fail
  exact bodyPost_ret (results_tmp rfl _ _ _) rfl ⟨rfl, HB1.out⟩

set_option maxHeartbeats 2000000 in
theorem guard1_any (b : Nat) (A : Option Addr) (R : List (Bool × ByteArray)) (c : Nat) (n : Nd) (w : World) (hb : w.heap[b]? = some (.cells #[.slice A R.length c] 23 (0, 0))) (hA : RdR w w.heap.size A R) (hf : Few R) (hl : (R.length : Int) ≤ 1000000) (hp : (n.path.size : Int) ≤ 1000000) :
    Calls Tryz.prog 68 #[.agg n.cells, .pointer (some ⟨b, 0, none⟩)] w fun e w' => e = .returned (.bool (shutN (rulesL R) n)) ∧ Below w.heap.size w w' := by
  obtain ⟨path, kind, mode, time, data⟩ := n
  have hB0 : Below w.heap.size w (w.alloc (.cells #[.string path, .int .i64 kind, .int .i64 mode, .int .i64 time, .string data] 36)) := (Below.refl _ w).alloc (Nat.le_refl _) _
  have r0 := World.alloc_heap_new w (Obj.cells #[.string path, .int .i64 kind, .int .i64 mode, .int .i64 time, .string data] 36)
  have c0 := cell_of_row _ _ 0 _ _ _ r0
  have c1 := cell_of_row _ _ 1 _ _ _ r0
  have c2 := cell_of_row _ _ 2 _ _ _ r0
  have c3 := cell_of_row _ _ 3 _ _ _ r0
  have c4 := cell_of_row _ _ 4 _ _ _ r0
  have HS := hide (choiceShut_any A R c ⟨path, kind, mode, time, data⟩ _ (hA.step hB0) hf hl hp)
  have cb := cell_of_row _ _ 0 _ _ _ ((hB0.block b (Array.getElem?_eq_some_iff.1 hb).1).trans hb)
  have HB := hide hB0
  show Calls _ _ #[.agg #[.string path, .int .i64 kind, .int .i64 mode, .int .i64 time, .string data], _] _ _
  generalize shutN (rulesL R) ⟨path, kind, mode, time, data⟩ = u at HS ⊢
  simp only [Nd.cells] at HS
  clear r0 hB0 hp hA hf hb
  go_enter Tryz.func68, Tryz.ntmps68
  go_wp2_with fail
  refine HS.out.mono ?_
  rintro e w1 ⟨rfl, hb1⟩
  have HB1 := hide (HB.out.trans (hb1.mono HB.out.size))
  clear hb1
  go_wp2_with fail
  exact bodyPost_ret (results_tmp rfl _ _ _) rfl ⟨rfl, HB1.out⟩

set_option maxHeartbeats 2000000 in
theorem sub1_any (b : Nat) (p : ByteArray) (n : Nd) (w : World) (hb : w.heap[b]? = some (.cells #[.string p] 9 (0, 0))) (hp : (n.path.size : Int) ≤ 1000000) (hq : (p.size : Int) ≤ 1000000) :
    Calls Tryz.prog 38 #[.agg n.cells, .pointer (some ⟨b, 0, none⟩)] w fun e w' => e = .returned (.bool (okB n.path p)) ∧ Below w.heap.size w w' := by
  obtain ⟨path, kind, mode, time, data⟩ := n
  have hB0 : Below w.heap.size w (w.alloc (.cells #[.string path, .int .i64 kind, .int .i64 mode, .int .i64 time, .string data] 36)) := (Below.refl _ w).alloc (Nat.le_refl _) _
  have r0 := World.alloc_heap_new w (Obj.cells #[.string path, .int .i64 kind, .int .i64 mode, .int .i64 time, .string data] 36)
  have c0 := cell_of_row _ _ 0 _ _ _ r0
  have c1 := cell_of_row _ _ 1 _ _ _ r0
  have c2 := cell_of_row _ _ 2 _ _ _ r0
  have c3 := cell_of_row _ _ 3 _ _ _ r0
  have c4 := cell_of_row _ _ 4 _ _ _ r0
  have HS := hide (within_any path p (w.alloc (.cells #[.string path, .int .i64 kind, .int .i64 mode, .int .i64 time, .string data] 36)) (by simp only at hp; omega) (by omega))
  have cb := cell_of_row _ _ 0 _ _ _ ((hB0.block b (Array.getElem?_eq_some_iff.1 hb).1).trans hb)
  have HB := hide hB0
  show Calls _ _ #[.agg #[.string path, .int .i64 kind, .int .i64 mode, .int .i64 time, .string data], _] _ _
  simp only
  clear r0 hB0 hp hb
  go_enter Tryz.func38, Tryz.ntmps38
  go_wp2_with fail
  refine HS.out.mono ?_
  rintro e w1 ⟨rfl, hb1⟩
  have HB1 := hide (HB.out.trans (hb1.mono HB.out.size))
  clear hb1
  go_wp2_with fail
  exact bodyPost_ret (results_tmp rfl _ _ _) rfl ⟨rfl, HB1.out⟩

set_option maxHeartbeats 16000000 in
theorem pickSub (b : Nat) (g : Nd → Bool) (A : Option Addr) (l : List Nd) (c : Nat) (w : World) (hA : RdN w w.heap.size A l) (hl : (l.length : Int) ≤ 1000)
    (HC0 : ∀ (n : Nd) (W : World), n ∈ l → Below w.heap.size w W → Calls Tryz.prog 38 #[.agg n.cells, .pointer (some ⟨b, 0, none⟩)] W fun e w' => e = .returned (.bool (g n)) ∧ Below W.heap.size W w') :
    Calls Tryz.prog 37 #[.slice A l.length c, .func (.func 38) #[] #[.pointer (some ⟨b, 0, none⟩)]] w fun e w' => ∃ v, e = .returned v ∧ NI w v (l.filter g) w' := by
  obtain ⟨i0, hi, hz0, hz1, hz2⟩ := info_parts info_node
  obtain ⟨L, hLe⟩ : ∃ L, L = l := ⟨_, rfl⟩
  obtain ⟨V, hV⟩ : ∃ V, V = L.filter g := ⟨_, rfl⟩
  rw [← hLe] at hA hl HC0 ⊢
  rw [← hV]
  have HA := hide hA
  have HLl := hide (show ∀ n ∈ L, n ∈ L from fun _ h => h)
  have HC := hide HC0
  have HQ0 := hide (show [] ++ (L.drop 0).filter g = V by rw [hV]; rfl)
  have HB0 := hide (Below.refl w.heap.size w)
  clear hA HC0 hV hLe
  go_enter Tryz.func37, Tryz.ntmps37
  go_wp2_with fail
  go_loopg [5, 10] L.length (fun gk ov iv wr => ∃ (j : Nat) (E : Option Addr) (f : Nat) (o : List Nd), ov = .slice E o.length f ∧ iv = .int .i64 j ∧ j + gk = L.length ∧ o.length ≤ j ∧ Hid (NI w (.slice E o.length f) o wr) ∧ Hid (o ++ (L.drop j).filter g = V))
  case atStart => exact ⟨0, none, 0, [], rfl, rfl, by omega, by simp, hide ⟨Below.refl _ _, World.ownsRow_nil _ _ _ _⟩, HQ0⟩
  case round =>
    obtain ⟨j, E, f, o, rfl, rfl, hjg, hoj, HO, HQ⟩ := hrel
    clear HQ0
    cases gk with
    | zero =>
      have hE : V = o := by rw [← HQ.out, List.drop_of_length_le (by omega)]; simp
      have HFin := hide (show NI w (.slice E o.length f) V wr by rw [hE]; exact ⟨HB0.out.trans (HO.out.below.mono HB0.out.size), ownsRow_lowerN HO.out.own HB0.out.size⟩)
      obtain rfl : j = L.length := by omega
      clear hE HQ HO
      go_wp2_with fail
      exact bodyPost_ret (results_tmp rfl _ _ _) rfl ⟨.slice E o.length f, rfl, HFin.out⟩
    | succ g1 =>
      have hji : (j : Int) < L.length := by omega
      have hj0 : (0 : Int) ≤ (j : Int) := by omega
      obtain ⟨n, hn⟩ : ∃ n, L[j]? = some n := ⟨_, List.getElem?_eq_getElem (by omega)⟩
      obtain ⟨ad, rfl, hlt, hnd⟩ := (HA.out.below HO.out.below (Nat.le_refl _)) j n hn
      have hd := HQ.out
      rw [filter_drop g L j n hn] at hd
      have hjw : IntKind.i64.wrap ((j : Int) + 1) = ((j + 1 : Nat) : Int) := by rw [IntWalk.i64_in _ (by omega)]; rfl
      have HW := hide (fun W (hb : Below w.heap.size w W) => HC.out n W (HLl.out n (List.mem_of_getElem? hn)) hb)
      generalize g n = u at HW hd
      obtain ⟨c0, c1, c2, c3, c4⟩ := hnd
      have hbN := (Below.refl wr.heap.size wr).alloc (Nat.le_refl _) (.cells n.cells 36)
      have hN := World.alloc_heap_new wr (Obj.cells n.cells 36)
      obtain ⟨path, kind, mode, time, data⟩ := n
      simp only [Nd.cells] at c0 c1 c2 c3 c4 HW hbN hN
      have HBN := hide hbN
      have HN := hide hN
      clear HQ hn hlt hbN hN
      go_upto_region 5 with fail
      clear c0 c1 c2 c3 c4
      generalize wr.alloc (.cells #[.string path, .int .i64 kind, .int .i64 mode, .int .i64 time, .string data] 36) = w2 at HBN HN ⊢
      have hN := HN.out
      have c0 := cell_of_row _ _ 0 _ _ _ hN
      have c1 := cell_of_row _ _ 1 _ _ _ hN
      have c2 := cell_of_row _ _ 2 _ _ _ hN
      have c3 := cell_of_row _ _ 3 _ _ _ hN
      have c4 := cell_of_row _ _ 4 _ _ _ hN
      have HO2 := hide (HO.out.step HBN.out)
      have HCl := hide (HW.out w2 (HB0.out.trans (HO2.out.below.mono HB0.out.size)))
      clear hN HO HBN HW
      cases u with
      | false =>
        rw [if_neg (by decide), List.nil_append] at hd
        have HD := hide hd
        clear hd
        go_wp2_with (go_at_call 38; refine HCl.out.mono ?_; rintro e w3 ⟨rfl, hb3⟩)
        have HO3 := hide (HO2.out.step hb3)
        go_roundg g1
        case rel => exact ⟨j + 1, E, f, o, rfl, rfl, by omega, by omega, HO3, HD⟩
        case measure => omega
      | true =>
        rw [if_pos rfl, ← List.append_assoc] at hd
        have HD := hide hd
        clear hd
        go_upto_if 16 with (go_at_call 38; refine HCl.out.mono ?_; rintro e w3 ⟨rfl, hb3⟩)
        have hN3 := (hb3.block _ (Array.getElem?_eq_some_iff.1 HN.out).1).trans HN.out
        clear c0 c1 c2 c3 c4
        have c0 := cell_of_row _ _ 0 _ _ _ hN3
        have c1 := cell_of_row _ _ 1 _ _ _ hN3
        have c2 := cell_of_row _ _ 2 _ _ _ hN3
        have c3 := cell_of_row _ _ 3 _ _ _ hN3
        have c4 := cell_of_row _ _ 4 _ _ _ hN3
        have hO3 := (HO2.out.step hb3).own
        have hB3 := (HO2.out.step hb3).below.alloc (HO2.out.step hb3).below.size (.cells (Nd.cells ⟨path, kind, mode, time, data⟩) 36)
        have hRn := RdN.one w3 ⟨path, kind, mode, time, data⟩ 36
        have hsz := hB3.size
        clear hb3 hN3
        go_wp2_with (at_builtin; go_loud (refine wpList_append_nodes rfl _ _ 22 rfl w.heap.size 36 i0 Tryz.underlying22 hi hz0 hz1 hz2 _ _ _ rfl (hO3.alloc _) (some ⟨w3.heap.size, 0, none⟩) _ 1 _ [⟨path, kind, mode, time, data⟩] rfl rfl hRn (by unfold maxLen; omega) (by omega) hsz ?_))
        intro v5 w5 hO5 hg5
        have hB5 := hB3.grown hg5 hB3.size (fun r e => (hO3.lt r e).1)
        obtain ⟨D, gc, rfl⟩ := ownsRow_slice hO5
        have hlen6 : (o ++ [(⟨path, kind, mode, time, data⟩ : Nd)]).length = o.length + 1 := by simp
        have HO6 := hide (show NI w (.slice D (o.length + 1) gc) (o ++ [⟨path, kind, mode, time, data⟩]) w5 from ⟨hB5, by rw [cellsN_app, hlen6]; exact hO5⟩)
        clear hO3 hRn hB3 hO5 hg5 hB5 hsz c0 c1 c2 c3 c4
        go_wp2_with fail
        go_roundg g1
        case rel => exact ⟨j + 1, D, gc, o ++ [⟨path, kind, mode, time, data⟩], by rw [hlen6], rfl, by omega, by rw [hlen6]; omega, by rw [hlen6]; exact HO6, HD⟩
        case measure => omega

set_option maxHeartbeats 16000000 in
theorem pickSent (b : Nat) (g : Nd → Bool) (A : Option Addr) (l : List Nd) (c : Nat) (w : World) (hA : RdN w w.heap.size A l) (hf : FewN l) (hl : (l.length : Int) ≤ 1000)
    (HC0 : ∀ (n : Nd) (W : World), n ∈ l → Below w.heap.size w W → Calls Tryz.prog 53 #[.agg n.cells, .pointer (some ⟨b, 0, none⟩)] W fun e w' => e = .returned (.bool (g n)) ∧ Below W.heap.size W w') :
    Calls Tryz.prog 52 #[.slice A l.length c, .func (.func 53) #[] #[.pointer (some ⟨b, 0, none⟩)]] w fun e w' => ∃ v, e = .returned v ∧ NI w v ((shownL l).filter g) w' := by
  obtain ⟨i0, hi, hz0, hz1, hz2⟩ := info_parts info_node
  have HSh := hide (shown_any A l c w hA hf hl)
  have HC := hide HC0
  obtain ⟨L, hLe⟩ : ∃ L, L = shownL l := ⟨_, rfl⟩
  obtain ⟨V, hV⟩ : ∃ V, V = L.filter g := ⟨_, rfl⟩
  have HLl := hide (show ∀ n ∈ L, n ∈ l from fun n h => by rw [hLe] at h; exact (List.mem_filter.1 h).1)
  have hLl : (L.length : Int) ≤ 1000 := by
    have : L.length ≤ l.length := by rw [hLe]; exact List.length_filter_le _ _
    omega
  rw [← hLe] at HSh ⊢
  rw [← hV]
  have HQ0 := hide (show [] ++ (L.drop 0).filter g = V by rw [hV]; rfl)
  clear hA hf HC0 hV hLe
  go_enter Tryz.func52, Tryz.ntmps52
  go_wp2_with fail
  refine HSh.out.mono ?_
  rintro e W0 ⟨v, rfl, hNI⟩
  obtain ⟨A1, c1, rfl⟩ := ownsRow_slice hNI.own
  have HA := hide (RdN.own hNI.own)
  have HB0 := hide hNI.below
  clear hNI HSh
  go_wp2_with fail
  go_loopg [5, 11] L.length (fun gk ov iv wr => ∃ (j : Nat) (E : Option Addr) (f : Nat) (o : List Nd), ov = .slice E o.length f ∧ iv = .int .i64 j ∧ j + gk = L.length ∧ o.length ≤ j ∧ Hid (NI W0 (.slice E o.length f) o wr) ∧ Hid (o ++ (L.drop j).filter g = V))
  case atStart => exact ⟨0, none, 0, [], rfl, rfl, by omega, by simp, hide ⟨Below.refl _ _, World.ownsRow_nil _ _ _ _⟩, HQ0⟩
  case round =>
    obtain ⟨j, E, f, o, rfl, rfl, hjg, hoj, HO, HQ⟩ := hrel
    clear HQ0
    cases gk with
    | zero =>
      have hE : V = o := by rw [← HQ.out, List.drop_of_length_le (by omega)]; simp
      have HFin := hide (show NI w (.slice E o.length f) V wr by rw [hE]; exact ⟨HB0.out.trans (HO.out.below.mono HB0.out.size), ownsRow_lowerN HO.out.own HB0.out.size⟩)
      obtain rfl : j = L.length := by omega
      clear hE HQ HO
      go_wp2_with fail
      exact bodyPost_ret (results_tmp rfl _ _ _) rfl ⟨.slice E o.length f, rfl, HFin.out⟩
    | succ g1 =>
      have hji : (j : Int) < L.length := by omega
      have hj0 : (0 : Int) ≤ (j : Int) := by omega
      obtain ⟨n, hn⟩ : ∃ n, L[j]? = some n := ⟨_, List.getElem?_eq_getElem (by omega)⟩
      obtain ⟨ad, rfl, hlt, hnd⟩ := (HA.out.below HO.out.below (Nat.le_refl _)) j n hn
      have hd := HQ.out
      rw [filter_drop g L j n hn] at hd
      have hjw : IntKind.i64.wrap ((j : Int) + 1) = ((j + 1 : Nat) : Int) := by rw [IntWalk.i64_in _ (by omega)]; rfl
      have HW := hide (fun W (hb : Below w.heap.size w W) => HC.out n W (HLl.out n (List.mem_of_getElem? hn)) hb)
      generalize g n = u at HW hd
      obtain ⟨c0, c1, c2, c3, c4⟩ := hnd
      have hbN := (Below.refl wr.heap.size wr).alloc (Nat.le_refl _) (.cells n.cells 36)
      have hN := World.alloc_heap_new wr (Obj.cells n.cells 36)
      obtain ⟨path, kind, mode, time, data⟩ := n
      simp only [Nd.cells] at c0 c1 c2 c3 c4 HW hbN hN
      have HBN := hide hbN
      have HN := hide hN
      clear HQ hn hlt hbN hN
      go_upto_region 5 with fail
      clear c0 c1 c2 c3 c4
      generalize wr.alloc (.cells #[.string path, .int .i64 kind, .int .i64 mode, .int .i64 time, .string data] 36) = w2 at HBN HN ⊢
      have hN := HN.out
      have c0 := cell_of_row _ _ 0 _ _ _ hN
      have c1 := cell_of_row _ _ 1 _ _ _ hN
      have c2 := cell_of_row _ _ 2 _ _ _ hN
      have c3 := cell_of_row _ _ 3 _ _ _ hN
      have c4 := cell_of_row _ _ 4 _ _ _ hN
      have HO2 := hide (HO.out.step HBN.out)
      have HCl := hide (HW.out w2 (HB0.out.trans (HO2.out.below.mono HB0.out.size)))
      clear hN HO HBN HW
      cases u with
      | false =>
        rw [if_neg (by decide), List.nil_append] at hd
        have HD := hide hd
        clear hd
        go_wp2_with (go_at_call 53; refine HCl.out.mono ?_; rintro e w3 ⟨rfl, hb3⟩)
        have HO3 := hide (HO2.out.step hb3)
        go_roundg g1
        case rel => exact ⟨j + 1, E, f, o, rfl, rfl, by omega, by omega, HO3, HD⟩
        case measure => omega
      | true =>
        rw [if_pos rfl, ← List.append_assoc] at hd
        have HD := hide hd
        clear hd
        go_upto_if 17 with (go_at_call 53; refine HCl.out.mono ?_; rintro e w3 ⟨rfl, hb3⟩)
        have hN3 := (hb3.block _ (Array.getElem?_eq_some_iff.1 HN.out).1).trans HN.out
        clear c0 c1 c2 c3 c4
        have c0 := cell_of_row _ _ 0 _ _ _ hN3
        have c1 := cell_of_row _ _ 1 _ _ _ hN3
        have c2 := cell_of_row _ _ 2 _ _ _ hN3
        have c3 := cell_of_row _ _ 3 _ _ _ hN3
        have c4 := cell_of_row _ _ 4 _ _ _ hN3
        have hO3 := (HO2.out.step hb3).own
        have hB3 := (HO2.out.step hb3).below.alloc (HO2.out.step hb3).below.size (.cells (Nd.cells ⟨path, kind, mode, time, data⟩) 36)
        have hRn := RdN.one w3 ⟨path, kind, mode, time, data⟩ 36
        have hsz := hB3.size
        clear hb3 hN3
        go_wp2_with (at_builtin; go_loud (refine wpList_append_nodes rfl _ _ 22 rfl W0.heap.size 36 i0 Tryz.underlying22 hi hz0 hz1 hz2 _ _ _ rfl (hO3.alloc _) (some ⟨w3.heap.size, 0, none⟩) _ 1 _ [⟨path, kind, mode, time, data⟩] rfl rfl hRn (by unfold maxLen; omega) (by omega) hsz ?_))
        intro v5 w5 hO5 hg5
        have hB5 := hB3.grown hg5 hB3.size (fun r e => (hO3.lt r e).1)
        obtain ⟨D, gc, rfl⟩ := ownsRow_slice hO5
        have hlen6 : (o ++ [(⟨path, kind, mode, time, data⟩ : Nd)]).length = o.length + 1 := by simp
        have HO6 := hide (show NI W0 (.slice D (o.length + 1) gc) (o ++ [⟨path, kind, mode, time, data⟩]) w5 from ⟨hB5, by rw [cellsN_app, hlen6]; exact hO5⟩)
        clear hO3 hRn hB3 hO5 hg5 hB5 hsz c0 c1 c2 c3 c4
        go_wp2_with fail
        go_roundg g1
        case rel => exact ⟨j + 1, D, gc, o ++ [⟨path, kind, mode, time, data⟩], by rw [hlen6], rfl, by omega, by rw [hlen6]; omega, by rw [hlen6]; exact HO6, HD⟩
        case measure => omega

set_option maxHeartbeats 16000000 in
theorem pickGuarded (b : Nat) (g : Nd → Bool) (A : Option Addr) (l : List Nd) (c : Nat) (w : World) (hA : RdN w w.heap.size A l) (hf : FewN l) (hl : (l.length : Int) ≤ 1000)
    (HC0 : ∀ (n : Nd) (W : World), n ∈ l → Below w.heap.size w W → Calls Tryz.prog 68 #[.agg n.cells, .pointer (some ⟨b, 0, none⟩)] W fun e w' => e = .returned (.bool (g n)) ∧ Below W.heap.size W w') :
    Calls Tryz.prog 52 #[.slice A l.length c, .func (.func 68) #[] #[.pointer (some ⟨b, 0, none⟩)]] w fun e w' => ∃ v, e = .returned v ∧ NI w v ((shownL l).filter g) w' := by
  obtain ⟨i0, hi, hz0, hz1, hz2⟩ := info_parts info_node
  have HSh := hide (shown_any A l c w hA hf hl)
  have HC := hide HC0
  obtain ⟨L, hLe⟩ : ∃ L, L = shownL l := ⟨_, rfl⟩
  obtain ⟨V, hV⟩ : ∃ V, V = L.filter g := ⟨_, rfl⟩
  have HLl := hide (show ∀ n ∈ L, n ∈ l from fun n h => by rw [hLe] at h; exact (List.mem_filter.1 h).1)
  have hLl : (L.length : Int) ≤ 1000 := by
    have : L.length ≤ l.length := by rw [hLe]; exact List.length_filter_le _ _
    omega
  rw [← hLe] at HSh ⊢
  rw [← hV]
  have HQ0 := hide (show [] ++ (L.drop 0).filter g = V by rw [hV]; rfl)
  clear hA hf HC0 hV hLe
  go_enter Tryz.func52, Tryz.ntmps52
  go_wp2_with fail
  refine HSh.out.mono ?_
  rintro e W0 ⟨v, rfl, hNI⟩
  obtain ⟨A1, c1, rfl⟩ := ownsRow_slice hNI.own
  have HA := hide (RdN.own hNI.own)
  have HB0 := hide hNI.below
  clear hNI HSh
  go_wp2_with fail
  go_loopg [5, 11] L.length (fun gk ov iv wr => ∃ (j : Nat) (E : Option Addr) (f : Nat) (o : List Nd), ov = .slice E o.length f ∧ iv = .int .i64 j ∧ j + gk = L.length ∧ o.length ≤ j ∧ Hid (NI W0 (.slice E o.length f) o wr) ∧ Hid (o ++ (L.drop j).filter g = V))
  case atStart => exact ⟨0, none, 0, [], rfl, rfl, by omega, by simp, hide ⟨Below.refl _ _, World.ownsRow_nil _ _ _ _⟩, HQ0⟩
  case round =>
    obtain ⟨j, E, f, o, rfl, rfl, hjg, hoj, HO, HQ⟩ := hrel
    clear HQ0
    cases gk with
    | zero =>
      have hE : V = o := by rw [← HQ.out, List.drop_of_length_le (by omega)]; simp
      have HFin := hide (show NI w (.slice E o.length f) V wr by rw [hE]; exact ⟨HB0.out.trans (HO.out.below.mono HB0.out.size), ownsRow_lowerN HO.out.own HB0.out.size⟩)
      obtain rfl : j = L.length := by omega
      clear hE HQ HO
      go_wp2_with fail
      exact bodyPost_ret (results_tmp rfl _ _ _) rfl ⟨.slice E o.length f, rfl, HFin.out⟩
    | succ g1 =>
      have hji : (j : Int) < L.length := by omega
      have hj0 : (0 : Int) ≤ (j : Int) := by omega
      obtain ⟨n, hn⟩ : ∃ n, L[j]? = some n := ⟨_, List.getElem?_eq_getElem (by omega)⟩
      obtain ⟨ad, rfl, hlt, hnd⟩ := (HA.out.below HO.out.below (Nat.le_refl _)) j n hn
      have hd := HQ.out
      rw [filter_drop g L j n hn] at hd
      have hjw : IntKind.i64.wrap ((j : Int) + 1) = ((j + 1 : Nat) : Int) := by rw [IntWalk.i64_in _ (by omega)]; rfl
      have HW := hide (fun W (hb : Below w.heap.size w W) => HC.out n W (HLl.out n (List.mem_of_getElem? hn)) hb)
      generalize g n = u at HW hd
      obtain ⟨c0, c1, c2, c3, c4⟩ := hnd
      have hbN := (Below.refl wr.heap.size wr).alloc (Nat.le_refl _) (.cells n.cells 36)
      have hN := World.alloc_heap_new wr (Obj.cells n.cells 36)
      obtain ⟨path, kind, mode, time, data⟩ := n
      simp only [Nd.cells] at c0 c1 c2 c3 c4 HW hbN hN
      have HBN := hide hbN
      have HN := hide hN
      clear HQ hn hlt hbN hN
      go_upto_region 5 with fail
      clear c0 c1 c2 c3 c4
      generalize wr.alloc (.cells #[.string path, .int .i64 kind, .int .i64 mode, .int .i64 time, .string data] 36) = w2 at HBN HN ⊢
      have hN := HN.out
      have c0 := cell_of_row _ _ 0 _ _ _ hN
      have c1 := cell_of_row _ _ 1 _ _ _ hN
      have c2 := cell_of_row _ _ 2 _ _ _ hN
      have c3 := cell_of_row _ _ 3 _ _ _ hN
      have c4 := cell_of_row _ _ 4 _ _ _ hN
      have HO2 := hide (HO.out.step HBN.out)
      have HCl := hide (HW.out w2 (HB0.out.trans (HO2.out.below.mono HB0.out.size)))
      clear hN HO HBN HW
      cases u with
      | false =>
        rw [if_neg (by decide), List.nil_append] at hd
        have HD := hide hd
        clear hd
        go_wp2_with (go_at_call 68; refine HCl.out.mono ?_; rintro e w3 ⟨rfl, hb3⟩)
        have HO3 := hide (HO2.out.step hb3)
        go_roundg g1
        case rel => exact ⟨j + 1, E, f, o, rfl, rfl, by omega, by omega, HO3, HD⟩
        case measure => omega
      | true =>
        rw [if_pos rfl, ← List.append_assoc] at hd
        have HD := hide hd
        clear hd
        go_upto_if 17 with (go_at_call 68; refine HCl.out.mono ?_; rintro e w3 ⟨rfl, hb3⟩)
        have hN3 := (hb3.block _ (Array.getElem?_eq_some_iff.1 HN.out).1).trans HN.out
        clear c0 c1 c2 c3 c4
        have c0 := cell_of_row _ _ 0 _ _ _ hN3
        have c1 := cell_of_row _ _ 1 _ _ _ hN3
        have c2 := cell_of_row _ _ 2 _ _ _ hN3
        have c3 := cell_of_row _ _ 3 _ _ _ hN3
        have c4 := cell_of_row _ _ 4 _ _ _ hN3
        have hO3 := (HO2.out.step hb3).own
        have hB3 := (HO2.out.step hb3).below.alloc (HO2.out.step hb3).below.size (.cells (Nd.cells ⟨path, kind, mode, time, data⟩) 36)
        have hRn := RdN.one w3 ⟨path, kind, mode, time, data⟩ 36
        have hsz := hB3.size
        clear hb3 hN3
        go_wp2_with (at_builtin; go_loud (refine wpList_append_nodes rfl _ _ 22 rfl W0.heap.size 36 i0 Tryz.underlying22 hi hz0 hz1 hz2 _ _ _ rfl (hO3.alloc _) (some ⟨w3.heap.size, 0, none⟩) _ 1 _ [⟨path, kind, mode, time, data⟩] rfl rfl hRn (by unfold maxLen; omega) (by omega) hsz ?_))
        intro v5 w5 hO5 hg5
        have hB5 := hB3.grown hg5 hB3.size (fun r e => (hO3.lt r e).1)
        obtain ⟨D, gc, rfl⟩ := ownsRow_slice hO5
        have hlen6 : (o ++ [(⟨path, kind, mode, time, data⟩ : Nd)]).length = o.length + 1 := by simp
        have HO6 := hide (show NI W0 (.slice D (o.length + 1) gc) (o ++ [⟨path, kind, mode, time, data⟩]) w5 from ⟨hB5, by rw [cellsN_app, hlen6]; exact hO5⟩)
        clear hO3 hRn hB3 hO5 hg5 hB5 hsz c0 c1 c2 c3 c4
        go_wp2_with fail
        go_roundg g1
        case rel => exact ⟨j + 1, D, gc, o ++ [⟨path, kind, mode, time, data⟩], by rw [hlen6], rfl, by omega, by rw [hlen6]; omega, by rw [hlen6]; exact HO6, HD⟩
        case measure => omega

set_option maxHeartbeats 2000000 in
theorem sub_any (A : Option Addr) (l : List Nd) (c : Nat) (p : ByteArray) (w : World) (hA : RdN w w.heap.size A l) (hf : FewN l) (hl : (l.length : Int) ≤ 1000) (hp : (p.size : Int) ≤ 1000000) :
    Calls Tryz.prog 24 #[.slice A l.length c, .string p] w fun e w' => ∃ v, e = .returned v ∧ NI w v (l.filter fun n => okB n.path p) w' := by
  have hB0 := (Below.refl w.heap.size w).alloc (Nat.le_refl _) (.cells #[.string p] 9)
  have r0 := World.alloc_heap_new w (Obj.cells #[.string p] 9)
  have HP := hide (pickSub w.heap.size (fun n => okB n.path p) A l c _ (hA.step hB0) hl (fun n W hn hb => by
    obtain ⟨k, hk⟩ := List.mem_iff_getElem?.1 hn
    exact sub1_any w.heap.size p n W ((hb.block _ (by simp)).trans r0) (hf k n hk).1 hp))
  have HB := hide hB0
  clear r0 hB0 hA hf
  go_enter Tryz.func24, Tryz.ntmps24
  go_wp2_with fail
  refine HP.out.mono ?_
  rintro e w1 ⟨v, rfl, hN⟩
  have HN := hide (show NI w v (l.filter fun n => okB n.path p) w1 from ⟨HB.out.trans (hN.below.mono HB.out.size), ownsRow_lowerN hN.own HB.out.size⟩)
  clear hN
  go_wp2_with fail
  exact bodyPost_ret (results_tmp rfl _ _ _) rfl ⟨v, rfl, HN.out⟩

set_option maxHeartbeats 2000000 in
theorem sent_any (A : Option Addr) (l : List Nd) (c : Nat) (B : Option Addr) (R : List (Bool × ByteArray)) (d : Nat) (w : World) (hA : RdN w w.heap.size A l) (hf : FewN l) (hl : (l.length : Int) ≤ 1000) (hR : RdR w w.heap.size B R) (hfr : Few R) (hlr : (R.length : Int) ≤ 1000000) :
    Calls Tryz.prog 32 #[.slice A l.length c, .slice B R.length d] w fun e w' => ∃ v, e = .returned v ∧ NI w v (sentL (rulesL R) l) w' := by
  have hB0 := (Below.refl w.heap.size w).alloc (Nat.le_refl _) (.cells #[.slice B R.length d] 23)
  have r0 := World.alloc_heap_new w (Obj.cells #[.slice B R.length d] 23)
  have HP := hide (pickSent w.heap.size (fun n => !shutN (rulesL R) n) A l c _ (hA.step hB0) hf hl (fun n W hn hb => by
    obtain ⟨k, hk⟩ := List.mem_iff_getElem?.1 hn
    exact sent1_any w.heap.size B R d n W ((hb.block _ (by simp)).trans r0) ((hR.step hB0).step hb) hfr hlr (hf k n hk).1))
  have HB := hide hB0
  clear r0 hB0 hA hf
  go_enter Tryz.func32, Tryz.ntmps32
  go_wp2_with fail
  refine HP.out.mono ?_
  rintro e w1 ⟨v, rfl, hN⟩
  have HN := hide (show NI w v (sentL (rulesL R) l) w1 from ⟨HB.out.trans (hN.below.mono HB.out.size), ownsRow_lowerN hN.own HB.out.size⟩)
  clear hN
  go_wp2_with fail
  exact bodyPost_ret (results_tmp rfl _ _ _) rfl ⟨v, rfl, HN.out⟩

set_option maxHeartbeats 2000000 in
theorem guard_any (A : Option Addr) (l : List Nd) (c : Nat) (B : Option Addr) (R : List (Bool × ByteArray)) (d : Nat) (w : World) (hA : RdN w w.heap.size A l) (hf : FewN l) (hl : (l.length : Int) ≤ 1000) (hR : RdR w w.heap.size B R) (hfr : Few R) (hlr : (R.length : Int) ≤ 1000000) :
    Calls Tryz.prog 50 #[.slice A l.length c, .slice B R.length d] w fun e w' => ∃ v, e = .returned v ∧ NI w v (guardL (rulesL R) l) w' := by
  have hB0 := (Below.refl w.heap.size w).alloc (Nat.le_refl _) (.cells #[.slice B R.length d] 23)
  have r0 := World.alloc_heap_new w (Obj.cells #[.slice B R.length d] 23)
  have HP := hide (pickGuarded w.heap.size (fun n => shutN (rulesL R) n) A l c _ (hA.step hB0) hf hl (fun n W hn hb => by
    obtain ⟨k, hk⟩ := List.mem_iff_getElem?.1 hn
    exact guard1_any w.heap.size B R d n W ((hb.block _ (by simp)).trans r0) ((hR.step hB0).step hb) hfr hlr (hf k n hk).1))
  have HB := hide hB0
  clear r0 hB0 hA hf
  go_enter Tryz.func50, Tryz.ntmps50
  go_wp2_with fail
  refine HP.out.mono ?_
  rintro e w1 ⟨v, rfl, hN⟩
  have HN := hide (show NI w v (guardL (rulesL R) l) w1 from ⟨HB.out.trans (hN.below.mono HB.out.size), ownsRow_lowerN hN.own HB.out.size⟩)
  clear hN
  go_wp2_with fail
  exact bodyPost_ret (results_tmp rfl _ _ _) rfl ⟨v, rfl, HN.out⟩
end Go.Proofs.YteoafohebgfjdaaGreatDoor
