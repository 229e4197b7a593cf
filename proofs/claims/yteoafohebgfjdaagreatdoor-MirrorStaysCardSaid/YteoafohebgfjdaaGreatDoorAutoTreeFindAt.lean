/-
  Texts that belong together: MiOfT, SmallR, MiFew, TreeFind, TreeFindAt.
-/
import Derived.Test.YteoafohebgfjdaaGreatDoorAutoMiOf
import Derived.Test.YteoafohebgfjdaaGreatDoorAutoRuleShut
import Derived.Test.YteoafohebgfjdaaGreatDoorAutoCutB
import Derived.Test.YteoafohebgfjdaaGreatDoorAutoNodeRef
/-
  mirror.Of and mirror.Left of trees that are tried.
-/
namespace Go.Proofs.YteoafohebgfjdaaGreatDoor
open Go.RowKit Go.Maps
set_option maxRecDepth 100000

theorem TW.fewN {t : List Nd} (h : TW t) : FewN t := fun k n hn => by
  have := h.few n (List.mem_of_getElem? hn)
  omega
theorem mirOfT_any {L : List Nd} (hLr : ∀ n ∈ L, rightB n.path ∧ n.path.size ≤ 200) (hLl : L.length ≤ 48) (A : Option Addr) (a : List Nd) (c : Nat) (B : Option Addr) (b : List Nd) (d : Nat) (C : Option Addr) (R : List (Bool × ByteArray)) (f : Nat) (del : Bool) (w : World)
    (hA : RdN w w.heap.size A a) (ha : TW a) (hal : a.length ≤ 1000) (hB : RdN w w.heap.size B b) (hb : TW b) (hbl : b.length ≤ 1000) (hR : RdR w w.heap.size C R) (hf : Few R) (hl : (R.length : Int) ≤ 1000000) (hin : ∀ n, n ∈ a ∨ n ∈ b → n ∈ L) :
    Calls Tryz.prog 13 #[.slice A a.length c, .slice B b.length d, .slice C R.length f, .bool del] w fun e w' => ∃ v l, e = .returned v ∧ Told (layV (sentL (rulesL R) a) (shownL b) (guardL (rulesL R) b) del) l ∧ l.length ≤ 1000 ∧ NI w v (l.map (·.node)) w' := by
  have hr := fun n hn => (hLr n hn).1
  have hs := fun n hn => (hLr n hn).2
  have h1 := bd_names hr
  have h2 := bd_paths L
  exact mirOf_any (LL := bdOf L) A a c B b d C R f del w hA ha.fewN (by omega) hB hb.fewN (by omega) hR hf hl (by unfold maxLen; omega) (bd_root L) (fun n hn => bd_ok hr hs (hin n hn)) rfl (by omega) (bd_deep hr)
    (FewV.laid _ (laid_trees (rulesL R) del ha hb) (ha.sent _) hb.shown)
theorem mirLeftT_any {L : List Nd} (hLr : ∀ n ∈ L, rightB n.path ∧ n.path.size ≤ 200) (hLl : L.length ≤ 48) (B : Option Addr) (b : List Nd) (d : Nat) (C : Option Addr) (R : List (Bool × ByteArray)) (f : Nat) (del : Bool) (p : ByteArray) (w : World)
    (hB : RdN w w.heap.size B b) (hb : TW b) (hbl : b.length ≤ 1000) (hR : RdR w w.heap.size C R) (hf : Few R) (hl : (R.length : Int) ≤ 1000000) (hin : ∀ n ∈ b, n ∈ L) (hp : (p.size : Int) ≤ 1000000) :
    Calls Tryz.prog 9 #[.slice B b.length d, .slice C R.length f, .bool del, .string p] w fun e w' => ∃ v, e = .returned v ∧ NI w v (if toL p = [] then [] else ((shownL b).filter (keepB (guardL (rulesL R) b) del)).filter fun n => okB n.path p) w' := by
  have hr := fun n hn => (hLr n hn).1
  have hs := fun n hn => (hLr n hn).2
  have h1 := bd_names hr
  have h2 := bd_paths L
  refine (mirLeft_any (LL := bdOf L) B b d C R f del p w hB hb.fewN (by omega) hR hf hl (by unfold maxLen; omega) (bd_root L) (fun n hn => bd_ok hr hs (hin n hn)) rfl (by omega) (bd_deep hr)
    (FewV.laid _ (laid_trees (rulesL R) del TW.nil hb) TW.nil hb.shown) hp).mono ?_
  rintro e w' ⟨v, m, rfl, hN, ⟨h3, rfl⟩ | ⟨h3, l, ht, rfl⟩⟩
  · exact ⟨v, rfl, by rw [if_pos h3]; exact hN⟩
  · refine ⟨v, rfl, ?_⟩
    rw [if_neg h3, ← left_of hb ht]
    exact hN
end Go.Proofs.YteoafohebgfjdaaGreatDoor
/-
  Are rules tried?
-/
namespace Go.Proofs.YteoafohebgfjdaaGreatDoor
open Go.RowKit
set_option maxRecDepth 100000

/-- Are rules tried? -/
def smallR (l : List (Bool × ByteArray)) : Bool := decide (l.length ≤ 20) && l.all fun r => decide (r.2.size ≤ 100)
set_option maxHeartbeats 2000000 in
theorem smallR_any (A : Option Addr) (l : List (Bool × ByteArray)) (c : Nat) (w : World) (hA : RdR w w.heap.size A l) :
    Calls Tryz.prog 19 #[.slice A l.length c] w fun e w' => e = .returned (.bool (smallR l)) ∧ w' = w := by
  obtain ⟨V, hV⟩ : ∃ V, V = smallR l := ⟨_, rfl⟩
  rw [← hV]
  by_cases h20 : (20 : Int) < l.length
  · have HV := hide (show V = false by rw [hV]; unfold smallR; rw [decide_eq_false (by omega)]; rfl)
    clear hV hA
    go_enter Tryz.func19, Tryz.ntmps19
    go_wp2_with fail
    exact bodyPost_ret (results_tmp rfl _ _ _) rfl ⟨by rw [HV.out]; rfl, rfl⟩
  · have HV := hide (show V = l.all fun r => decide (r.2.size ≤ 100) by rw [hV]; unfold smallR; rw [decide_eq_true (by omega)]; rfl)
    clear hV
    go_enter Tryz.func19, Tryz.ntmps19
    go_wp2_with fail
    go_loopg [3] l.length (fun gk iv wr => ∃ i : Nat, iv = .int .i64 i ∧ i + gk = l.length ∧ Hid (((l.drop i).all fun r => decide (r.2.size ≤ 100)) = V) ∧ wr = w)
    case atStart => exact ⟨0, rfl, by omega, hide (by rw [HV.out]; rfl), rfl⟩
    case round =>
      obtain ⟨i, rfl, hig, HB, rfl⟩ := hrel
      cases gk with
      | zero =>
        obtain rfl : i = l.length := by omega
        have HE := hide (show V = true by rw [← HB.out, List.drop_length]; rfl)
        clear HB
        go_wp2_with fail
        exact bodyPost_ret (results_tmp rfl _ _ _) rfl ⟨by rw [HE.out]; rfl, rfl⟩
      | succ g0 =>
        have hii : (i : Int) < l.length := by omega
        obtain ⟨r, hr⟩ : ∃ r, l[i]? = some r := ⟨_, List.getElem?_eq_getElem (by omega)⟩
        obtain ⟨ad, rfl, hlt, c0, c1⟩ := hA i r hr
        have hd := HB.out
        obtain ⟨hlt2, er⟩ := List.getElem?_eq_some_iff.1 hr
        rw [List.drop_eq_getElem_cons hlt2, er, List.all_cons] at hd
        have hiw : IntKind.i64.wrap ((i : Int) + 1) = ((i + 1 : Nat) : Int) := by rw [IntWalk.i64_in _ (by omega)]; rfl
        by_cases h100 : (100 : Int) < r.2.size
        · rw [decide_eq_false (by omega), Bool.false_and] at hd
          have HD := hide hd
          clear hd HB hr er hlt2
          go_wp2_with fail
          exact bodyPost_ret (results_tmp rfl _ _ _) rfl ⟨by rw [← HD.out]; rfl, rfl⟩
        · rw [decide_eq_true (by omega), Bool.true_and] at hd
          have HD := hide hd
          clear hd HB hr er hlt2
          go_wp2_with fail
          go_roundg g0
          case rel => exact ⟨i + 1, rfl, by omega, HD, rfl⟩
          case measure => omega
theorem smallR_few {l : List (Bool × ByteArray)} (h : smallR l = true) : Few l ∧ (l.length : Int) ≤ 20 := by
  unfold smallR at h
  rw [Bool.and_eq_true, decide_eq_true_eq, List.all_eq_true] at h
  refine ⟨fun k r hk => ?_, by omega⟩
  have := of_decide_eq_true (h.2 r (List.mem_of_getElem? hk))
  omega
end Go.Proofs.YteoafohebgfjdaaGreatDoor
/-
  Are trees and rules tried?
-/
namespace Go.Proofs.YteoafohebgfjdaaGreatDoor
open Go.RowKit
set_option maxRecDepth 100000

set_option maxHeartbeats 2000000 in
theorem few_any (A : Option Addr) (S : List Nd) (c : Nat) (B : Option Addr) (D : List Nd) (d : Nat) (C : Option Addr) (R : List (Bool × ByteArray)) (f : Nat) (w : World) (hA : RdN w w.heap.size A S) (hB : RdN w w.heap.size B D) (hR : RdR w w.heap.size C R) :
    Calls Tryz.prog 6 #[.slice A S.length c, .slice B D.length d, .slice C R.length f] w fun e w' => e = .returned (.bool (smallL S && (smallL D && smallR R))) ∧ w' = w := by
  have H1 := hide (small_any A S c w hA)
  have H2 := hide (small_any B D d w hB)
  have H3 := hide (smallR_any C R f w hR)
  clear hA hB hR
  generalize smallL S = x at H1 ⊢
  generalize smallL D = y at H2 ⊢
  generalize smallR R = z at H3 ⊢
  go_enter Tryz.func6, Tryz.ntmps6
  cases x with
  | false =>
    go_wp2_with fail
    refine H1.out.mono ?_
    rintro e w1 ⟨rfl, rfl⟩
    go_wp2_with fail
    exact bodyPost_ret (results_tmp rfl _ _ _) rfl ⟨rfl, rfl⟩
  | true =>
    cases y with
    | false =>
      go_wp2_with fail
      refine H1.out.mono ?_
      rintro e w1 ⟨rfl, rfl⟩
      go_wp2_with fail
      refine H2.out.mono ?_
      rintro e w1 ⟨rfl, rfl⟩
      go_wp2_with fail
      exact bodyPost_ret (results_tmp rfl _ _ _) rfl ⟨rfl, rfl⟩
    | true =>
      go_wp2_with fail
      refine H1.out.mono ?_
      rintro e w1 ⟨rfl, rfl⟩
      go_wp2_with fail
      refine H2.out.mono ?_
      rintro e w1 ⟨rfl, rfl⟩
      go_wp2_with fail
      refine H3.out.mono ?_
      rintro e w1 ⟨rfl, rfl⟩
      go_wp2_with fail
      exact bodyPost_ret (results_tmp rfl _ _ _) rfl ⟨rfl, rfl⟩
end Go.Proofs.YteoafohebgfjdaaGreatDoor
/-
  tree.Find: the node at a path (10.2), by slices.IndexFunc over a function that holds the path.
-/
namespace Go.Proofs.YteoafohebgfjdaaGreatDoor
open Go.RowKit
set_option maxRecDepth 100000

set_option maxHeartbeats 1000000 in
theorem find1_any (n : Nd) (b : Nat) (p : ByteArray) (w : World) (hb : b < w.heap.size) (c : w.heap[b]? = some (.cells #[.string p] 9 (0, 0))) :
    Calls Tryz.prog 30 #[.agg n.cells, .pointer (some ⟨b, 0, none⟩)] w fun e w' => e = .returned (.bool (hit p n)) ∧ Below w.heap.size w w' := by
  obtain ⟨path, kind, mode, time, data⟩ := n
  show Calls _ _ #[.agg #[.string path, .int .i64 kind, .int .i64 mode, .int .i64 time, .string data], _] _ _
  have hB0 : Below w.heap.size w (w.alloc (.cells #[.string path, .int .i64 kind, .int .i64 mode, .int .i64 time, .string data] 36)) := (Below.refl _ w).alloc (Nat.le_refl _) _
  have r0 := World.alloc_heap_new w (Obj.cells #[.string path, .int .i64 kind, .int .i64 mode, .int .i64 time, .string data] 36)
  have c0 : (w.alloc (.cells #[.string path, .int .i64 kind, .int .i64 mode, .int .i64 time, .string data] 36)).cell? ⟨w.heap.size, 0, none⟩ = some (.string path) := cell_of_row _ _ _ _ _ _ r0
  have c1 : (w.alloc (.cells #[.string path, .int .i64 kind, .int .i64 mode, .int .i64 time, .string data] 36)).cell? ⟨b, 0, none⟩ = some (.string p) := cell_of_row _ _ _ _ _ _ ((Below.heap_alloc _ _ _ hb).trans c)
  clear r0 c
  go_enter Tryz.func30, Tryz.ntmps30
  go_wp2_with fail
  exact bodyPost_ret (results_tmp rfl _ _ _) rfl ⟨rfl, hB0⟩

set_option maxHeartbeats 4000000 in
theorem indexNode_any (A : Option Addr) (l : List Nd) (c b : Nat) (p : ByteArray) (w : World) (hA : RdN w w.heap.size A l) (hl : (l.length : Int) ≤ 1000000) (hb : b < w.heap.size) (hc : w.heap[b]? = some (.cells #[.string p] 9 (0, 0))) :
    Calls Tryz.prog 29 #[.slice A l.length c, .func (.func 30) #[] #[.pointer (some ⟨b, 0, none⟩)]] w fun e w' => e = .returned (.int .i64 (atL p l)) ∧ Below w.heap.size w w' := by
  obtain ⟨V, hV⟩ : ∃ V, V = atL p l := ⟨_, rfl⟩
  rw [← hV]
  have HV := hide (show atFrom p 0 (l.drop 0) = V by rw [hV]; rfl)
  have HC := hide (And.intro hb hc)
  clear hV hb hc
  go_enter Tryz.func29, Tryz.ntmps29
  go_wp2_with fail
  go_loopg [8] l.length (fun gk iv wr => ∃ i : Nat, iv = .int .i64 i ∧ i + gk = l.length ∧ Hid (atFrom p i (l.drop i) = V) ∧ Below w.heap.size w wr ∧ RdN wr wr.heap.size A l)
  case atStart => exact ⟨0, rfl, by omega, HV, Below.refl _ _, hA⟩
  case round =>
    obtain ⟨i, rfl, hig, HB, hB, hR⟩ := hrel
    clear hA
    cases gk with
    | zero =>
      obtain rfl : i = l.length := by omega
      have HE := hide (show V = -1 by rw [← HB.out, List.drop_length]; rfl)
      clear HB
      go_wp2_with fail
      exact bodyPost_ret (results_tmp rfl _ _ _) rfl ⟨by rw [HE.out]; rfl, hB⟩
    | succ g0 =>
      have hii : (i : Int) < l.length := by omega
      obtain ⟨n, hn⟩ : ∃ n, l[i]? = some n := ⟨_, List.getElem?_eq_getElem (by omega)⟩
      obtain ⟨ad, rfl, hlt, hnd⟩ := hR i n hn
      have hd := HB.out
      rw [at_drop p l i n hn] at hd
      have HM := hide (find1_any n b p wr (Nat.lt_of_lt_of_le HC.out.1 hB.size) ((hB.block _ HC.out.1).trans HC.out.2))
      obtain ⟨path, kind, mode, time, data⟩ := n
      obtain ⟨c0, c1, c2, c3, c4⟩ := hnd
      simp only at c0 c1 c2 c3 c4
      generalize hit p ⟨path, kind, mode, time, data⟩ = K at HM hd
      clear HB hn
      cases K with
      | true =>
        rw [if_pos rfl] at hd
        have HD := hide hd
        clear hd
        go_wp2_with (go_at_call 30; refine HM.out.mono ?_; rintro e w3 ⟨rfl, hb3⟩)
        exact bodyPost_ret (results_tmp rfl _ _ _) rfl ⟨by rw [← HD.out]; rfl, hB.trans (hb3.mono hB.size)⟩
      | false =>
        rw [if_neg (by decide)] at hd
        have HD := hide hd
        have hiw : IntKind.i64.wrap ((i : Int) + 1) = ((i + 1 : Nat) : Int) := by rw [IntWalk.i64_in _ (by omega)]; rfl
        clear hd
        go_wp2_with (go_at_call 30; refine HM.out.mono ?_; rintro e w3 ⟨rfl, hb3⟩)
        go_roundg g0
        case rel => exact ⟨i + 1, rfl, by omega, HD, hB.trans (hb3.mono hB.size), hR.step hb3⟩
        case measure => omega
end Go.Proofs.YteoafohebgfjdaaGreatDoor
/-
  tree.Find: its answer.
-/
namespace Go.Proofs.YteoafohebgfjdaaGreatDoor
open Go.RowKit
set_option maxRecDepth 100000

theorem find_rows (w : World) (X Y : Array Value) (t u : TypeId) : ((w.alloc (.cells X t)).alloc (.cells Y u)).heap[w.heap.size]? = some (.cells X t (0, 0)) ∧ ((w.alloc (.cells X t)).alloc (.cells Y u)).heap[w.heap.size + 1]? = some (.cells Y u (0, 0)) ∧ Below w.heap.size w ((w.alloc (.cells X t)).alloc (.cells Y u)) := by
  refine ⟨?_, ?_, ((Below.refl _ w).alloc (Nat.le_refl _) _).alloc (by simp) _⟩
  · rw [Below.heap_alloc _ _ _ (by simp)]
    exact World.alloc_heap_new _ _
  · have h := World.alloc_heap_new (w.alloc (.cells X t)) (Obj.cells Y u)
    simp only [World.size_alloc] at h
    exact h
theorem set_five (w w3 : World) (n : Nat) (a b c d e x y z u v : Value) (t : TypeId) (h : w3.heap[n]? = some (.cells #[a, b, c, d, e] t (0, 0))) (hn : w.heap.size ≤ n) (hB : Below w.heap.size w w3) :
    ∃ W, W = ((((w3.setCell ⟨n, 0, none⟩ x).setCell ⟨n, 1, none⟩ y).setCell ⟨n, 2, none⟩ z).setCell ⟨n, 3, none⟩ u).setCell ⟨n, 4, none⟩ v ∧ W.heap[n]? = some (.cells #[x, y, z, u, v] t (0, 0)) ∧ Below w.heap.size w W := by
  have h1 := heap_setCell_same w3 n 0 _ _ x h
  have h2 := heap_setCell_same _ n 1 _ _ y h1
  have h3 := heap_setCell_same _ n 2 _ _ z h2
  have h4 := heap_setCell_same _ n 3 _ _ u h3
  have h5 := heap_setCell_same _ n 4 _ _ v h4
  exact ⟨_, rfl, h5, ((((hB.setCell (p := ⟨n, 0, none⟩) hn _).setCell (p := ⟨n, 1, none⟩) hn _).setCell (p := ⟨n, 2, none⟩) hn _).setCell (p := ⟨n, 3, none⟩) hn _).setCell (p := ⟨n, 4, none⟩) hn _⟩
/-- What Find answers: a node, and is there one? -/
def findL (p : ByteArray) (l : List Nd) : Nd × Bool := if atL p l < 0 then (zeroNd, false) else (l.getD (atL p l).toNat zeroNd, true)

set_option maxHeartbeats 8000000 in
theorem find_any (A : Option Addr) (l : List Nd) (c : Nat) (p : ByteArray) (w : World) (hA : RdN w w.heap.size A l) (hl : (l.length : Int) ≤ 1000000) :
    Calls Tryz.prog 16 #[.slice A l.length c, .string p] w fun e w' => e = .returned (.tuple #[.agg (findL p l).1.cells, .bool (findL p l).2]) ∧ Below w.heap.size w w' := by
  obtain ⟨q0, q1, hB⟩ := find_rows w #[.string p] #[.string ⟨#[]⟩, .int .i64 0, .int .i64 0, .int .i64 0, .string ⟨#[]⟩] 9 36
  have HIx := hide (indexNode_any A l c w.heap.size p _ (hA.step hB) hl (Array.getElem?_eq_some_iff.1 q0).1 q0)
  have HCases := hide (at_cases p l)
  have HFd := hide (show findL p l = if atL p l < 0 then (zeroNd, false) else (l.getD (atL p l).toNat zeroNd, true) from rfl)
  generalize findL p l = F at HFd ⊢
  generalize atL p l = z at HIx HCases HFd
  have HA := hide hA
  clear hA
  go_enter Tryz.func16, Tryz.ntmps16
  go_wp2_with fail
  refine HIx.out.mono ?_
  rintro e w3 ⟨rfl, hb3⟩
  have s3 := (hb3.block (w.heap.size + 1) (Array.getElem?_eq_some_iff.1 q1).1).trans q1
  have hB3 := hB.trans (hb3.mono hB.size)
  clear HIx q0 q1 hB hb3
  have z0 : ∀ i, w3.frozen? ⟨w.heap.size + 1, i, none⟩ = false := fun i => frozen_of_row _ _ _ _ _ s3
  have d0 : w3.cell? ⟨w.heap.size + 1, 0, none⟩ = some (.string ⟨#[]⟩) := cell_of_row _ _ _ _ _ _ s3
  have d1 : w3.cell? ⟨w.heap.size + 1, 1, none⟩ = some (.int .i64 0) := cell_of_row _ _ _ _ _ _ s3
  have d2 : w3.cell? ⟨w.heap.size + 1, 2, none⟩ = some (.int .i64 0) := cell_of_row _ _ _ _ _ _ s3
  have d3 : w3.cell? ⟨w.heap.size + 1, 3, none⟩ = some (.int .i64 0) := cell_of_row _ _ _ _ _ _ s3
  have d4 : w3.cell? ⟨w.heap.size + 1, 4, none⟩ = some (.string ⟨#[]⟩) := cell_of_row _ _ _ _ _ _ s3
  have e0 := z0 0
  have e1 := z0 1
  have e2 := z0 2
  have e3 := z0 3
  have e4 := z0 4
  rcases HCases.out with h | ⟨k, n, h, hn, _⟩
  · obtain ⟨W, hW, r5, hBW⟩ := set_five w w3 (w.heap.size + 1) _ _ _ _ _ (.string ⟨#[]⟩) (.int .i64 0) (.int .i64 0) (.int .i64 0) (.string ⟨#[]⟩) _ s3 (Nat.le_succ _) hB3
    have HE := hide (show F = (zeroNd, false) by rw [HFd.out, h]; rfl)
    subst h
    clear HCases HFd z0
    go_wp2_with fail
    subst hW
    have y0 : (((((w3.setCell ⟨w.heap.size + 1, 0, none⟩ (.string ⟨#[]⟩)).setCell ⟨w.heap.size + 1, 1, none⟩ (.int .i64 0)).setCell ⟨w.heap.size + 1, 2, none⟩ (.int .i64 0)).setCell ⟨w.heap.size + 1, 3, none⟩ (.int .i64 0)).setCell ⟨w.heap.size + 1, 4, none⟩ (.string ⟨#[]⟩)).cell? ⟨w.heap.size + 1, 0, none⟩ = some (.string ⟨#[]⟩) := cell_of_row _ _ _ _ _ _ r5
    have y1 : (((((w3.setCell ⟨w.heap.size + 1, 0, none⟩ (.string ⟨#[]⟩)).setCell ⟨w.heap.size + 1, 1, none⟩ (.int .i64 0)).setCell ⟨w.heap.size + 1, 2, none⟩ (.int .i64 0)).setCell ⟨w.heap.size + 1, 3, none⟩ (.int .i64 0)).setCell ⟨w.heap.size + 1, 4, none⟩ (.string ⟨#[]⟩)).cell? ⟨w.heap.size + 1, 1, none⟩ = some (.int .i64 0) := cell_of_row _ _ _ _ _ _ r5
    have y2 : (((((w3.setCell ⟨w.heap.size + 1, 0, none⟩ (.string ⟨#[]⟩)).setCell ⟨w.heap.size + 1, 1, none⟩ (.int .i64 0)).setCell ⟨w.heap.size + 1, 2, none⟩ (.int .i64 0)).setCell ⟨w.heap.size + 1, 3, none⟩ (.int .i64 0)).setCell ⟨w.heap.size + 1, 4, none⟩ (.string ⟨#[]⟩)).cell? ⟨w.heap.size + 1, 2, none⟩ = some (.int .i64 0) := cell_of_row _ _ _ _ _ _ r5
    have y3 : (((((w3.setCell ⟨w.heap.size + 1, 0, none⟩ (.string ⟨#[]⟩)).setCell ⟨w.heap.size + 1, 1, none⟩ (.int .i64 0)).setCell ⟨w.heap.size + 1, 2, none⟩ (.int .i64 0)).setCell ⟨w.heap.size + 1, 3, none⟩ (.int .i64 0)).setCell ⟨w.heap.size + 1, 4, none⟩ (.string ⟨#[]⟩)).cell? ⟨w.heap.size + 1, 3, none⟩ = some (.int .i64 0) := cell_of_row _ _ _ _ _ _ r5
    have y4 : (((((w3.setCell ⟨w.heap.size + 1, 0, none⟩ (.string ⟨#[]⟩)).setCell ⟨w.heap.size + 1, 1, none⟩ (.int .i64 0)).setCell ⟨w.heap.size + 1, 2, none⟩ (.int .i64 0)).setCell ⟨w.heap.size + 1, 3, none⟩ (.int .i64 0)).setCell ⟨w.heap.size + 1, 4, none⟩ (.string ⟨#[]⟩)).cell? ⟨w.heap.size + 1, 4, none⟩ = some (.string ⟨#[]⟩) := cell_of_row _ _ _ _ _ _ r5
    refine bodyPost_ret (v := .tuple #[.agg #[(.string ⟨#[]⟩), (.int .i64 0), (.int .i64 0), (.int .i64 0), (.string ⟨#[]⟩)], .bool false]) (by simp [results, Tryz.results16, go_sem, y0, y1, y2, y3, y4]) rfl ⟨by rw [HE.out]; rfl, hBW⟩
  · obtain ⟨path, kind, mode, time, data⟩ := n
    obtain ⟨W, hW, r5, hBW⟩ := set_five w w3 (w.heap.size + 1) _ _ _ _ _ (.string path) (.int .i64 kind) (.int .i64 mode) (.int .i64 time) (.string data) _ s3 (Nat.le_succ _) hB3
    have HE := hide (show F = (⟨path, kind, mode, time, data⟩, true) by rw [HFd.out, h, if_neg (by omega), Int.toNat_natCast, List.getD_eq_getElem?_getD, hn]; rfl)
    obtain ⟨ad, rfl, hlt, c0, c1, c2, c3, c4⟩ := (HA.out.below hB3 (Nat.le_refl _)) k _ hn
    simp only at c0 c1 c2 c3 c4
    have hkl : k < l.length := (List.getElem?_eq_some_iff.1 hn).1
    have hki : (k : Int) < l.length := by omega
    subst h
    clear HCases HFd z0 hn
    go_wp2_with fail
    subst hW
    have y0 : (((((w3.setCell ⟨w.heap.size + 1, 0, none⟩ (.string path)).setCell ⟨w.heap.size + 1, 1, none⟩ (.int .i64 kind)).setCell ⟨w.heap.size + 1, 2, none⟩ (.int .i64 mode)).setCell ⟨w.heap.size + 1, 3, none⟩ (.int .i64 time)).setCell ⟨w.heap.size + 1, 4, none⟩ (.string data)).cell? ⟨w.heap.size + 1, 0, none⟩ = some (.string path) := cell_of_row _ _ _ _ _ _ r5
    have y1 : (((((w3.setCell ⟨w.heap.size + 1, 0, none⟩ (.string path)).setCell ⟨w.heap.size + 1, 1, none⟩ (.int .i64 kind)).setCell ⟨w.heap.size + 1, 2, none⟩ (.int .i64 mode)).setCell ⟨w.heap.size + 1, 3, none⟩ (.int .i64 time)).setCell ⟨w.heap.size + 1, 4, none⟩ (.string data)).cell? ⟨w.heap.size + 1, 1, none⟩ = some (.int .i64 kind) := cell_of_row _ _ _ _ _ _ r5
    have y2 : (((((w3.setCell ⟨w.heap.size + 1, 0, none⟩ (.string path)).setCell ⟨w.heap.size + 1, 1, none⟩ (.int .i64 kind)).setCell ⟨w.heap.size + 1, 2, none⟩ (.int .i64 mode)).setCell ⟨w.heap.size + 1, 3, none⟩ (.int .i64 time)).setCell ⟨w.heap.size + 1, 4, none⟩ (.string data)).cell? ⟨w.heap.size + 1, 2, none⟩ = some (.int .i64 mode) := cell_of_row _ _ _ _ _ _ r5
    have y3 : (((((w3.setCell ⟨w.heap.size + 1, 0, none⟩ (.string path)).setCell ⟨w.heap.size + 1, 1, none⟩ (.int .i64 kind)).setCell ⟨w.heap.size + 1, 2, none⟩ (.int .i64 mode)).setCell ⟨w.heap.size + 1, 3, none⟩ (.int .i64 time)).setCell ⟨w.heap.size + 1, 4, none⟩ (.string data)).cell? ⟨w.heap.size + 1, 3, none⟩ = some (.int .i64 time) := cell_of_row _ _ _ _ _ _ r5
    have y4 : (((((w3.setCell ⟨w.heap.size + 1, 0, none⟩ (.string path)).setCell ⟨w.heap.size + 1, 1, none⟩ (.int .i64 kind)).setCell ⟨w.heap.size + 1, 2, none⟩ (.int .i64 mode)).setCell ⟨w.heap.size + 1, 3, none⟩ (.int .i64 time)).setCell ⟨w.heap.size + 1, 4, none⟩ (.string data)).cell? ⟨w.heap.size + 1, 4, none⟩ = some (.string data) := cell_of_row _ _ _ _ _ _ r5
    refine bodyPost_ret (v := .tuple #[.agg #[(.string path), (.int .i64 kind), (.int .i64 mode), (.int .i64 time), (.string data)], .bool true]) (by simp [results, Tryz.results16, go_sem, y0, y1, y2, y3, y4]) rfl ⟨by rw [HE.out]; rfl, hBW⟩
end Go.Proofs.YteoafohebgfjdaaGreatDoor
