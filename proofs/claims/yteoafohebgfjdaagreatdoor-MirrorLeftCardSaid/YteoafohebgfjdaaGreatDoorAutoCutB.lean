/-
  Texts that belong together: MiRef, TreeIn, MkSmall, CutB.
-/
import Derived.Test.YteoafohebgfjdaaGreatDoorMiPick
import Derived.Test.YteoafohebgfjdaaGreatDoorAutoMkWithin
import Derived.Test.YteoafohebgfjdaaGreatDoorAutoRefShut
import Derived.Test.YteoafohebgfjdaaGreatDoorAutoRefCore
import Derived.Test.YteoafohebgfjdaaGreatDoorAutoNodeRef
import Derived.Test.YteoafohebgfjdaaGreatDoorAutoPathCutMore
/-
  The references that the mirror's laws hold it against: what is shut out, shown, picked.
-/
namespace Go.Proofs.YteoafohebgfjdaaGreatDoor
open Go.RowKit
set_option maxRecDepth 100000

set_option maxHeartbeats 2000000 in
theorem refShutN_any (A : Option Addr) (R : List (Bool × ByteArray)) (c : Nat) (n : Nd) (w : World) (hA : RdR w w.heap.size A R) (hf : Few R) (hl : (R.length : Int) ≤ 1000000) (hp : (n.path.size : Int) ≤ 1000000) :
    Calls Tryz.prog 25 #[.slice A R.length c, .agg n.cells] w fun e w' => e = .returned (.bool (shutN (rulesL R) n)) ∧ Below w.heap.size w w' := by
  obtain ⟨path, kind, mode, time, data⟩ := n
  have hB0 : Below w.heap.size w (w.alloc (.cells #[.string path, .int .i64 kind, .int .i64 mode, .int .i64 time, .string data] 36)) := (Below.refl _ w).alloc (Nat.le_refl _) _
  have HS := hide (refShut_any A R c path (kind == 1) _ (hA.step hB0) hf hl hp)
  have HB := hide hB0
  have e : shutN (rulesL R) ⟨path, kind, mode, time, data⟩ = shutL (rulesL R) (toL path) (kind == 1) := rfl
  rw [e]
  simp only [Nd.cells]
  clear hA hB0 e hf
  generalize shutL (rulesL R) (toL path) (kind == 1) = V at HS
  go_enter Tryz.func25, Tryz.ntmps25
  go_wp2_with fail
  refine HS.out.mono ?_
  rintro e w1 ⟨rfl, hb⟩
  go_wp2_with fail
  exact bodyPost_ret (results_tmp rfl _ _ _) rfl ⟨rfl, HB.out.trans (hb.mono HB.out.size)⟩

set_option maxHeartbeats 2000000 in
theorem refShown_any (A : Option Addr) (l : List Nd) (c : Nat) (w : World) (hA : RdN w w.heap.size A l) (hf : FewN l) (hl : (l.length : Int) ≤ 1000) :
    Calls Tryz.prog 12 #[.slice A l.length c] w fun e w' => ∃ v, e = .returned v ∧ NI w v (sideL flit false l) w' := by
  have HS := hide (refSide_any A l c flit false w hA hf hl (by decide))
  clear hA hf
  go_enter Tryz.func12, Tryz.ntmps12
  go_wp2_with fail
  refine HS.out.mono ?_
  rintro e w1 ⟨v, rfl, hN⟩
  have HN := hide hN
  clear hN
  go_wp2_with fail
  exact bodyPost_ret (results_tmp rfl _ _ _) rfl ⟨v, rfl, HN.out⟩

/-- What isn't reserved, and is shut out, or isn't. -/
def pickB (R : List (Bool × List UInt8)) (b : Bool) (n : Nd) : Bool := !withinB (toL n.path) (toL flit) && (shutN R n == b)
def pickL (R : List (Bool × List UInt8)) (b : Bool) (l : List Nd) : List Nd := l.filter (pickB R b)
theorem pick_drop (R : List (Bool × List UInt8)) (b : Bool) (l : List Nd) (i : Nat) (n : Nd) (h : l[i]? = some n) : pickL R b (l.drop i) = (if pickB R b n = true then [n] else []) ++ pickL R b (l.drop (i + 1)) := by
  obtain ⟨hi, rfl⟩ := List.getElem?_eq_some_iff.1 h
  rw [List.drop_eq_getElem_cons hi]
  unfold pickL
  rw [List.filter_cons]
  cases pickB R b l[i] <;> rfl

set_option maxHeartbeats 32000000 in
theorem refPick_any (A : Option Addr) (l : List Nd) (c : Nat) (C : Option Addr) (R : List (Bool × ByteArray)) (f : Nat) (b : Bool) (w : World) (hA : RdN w w.heap.size A l) (hf : FewN l) (hl : (l.length : Int) ≤ 1000) (hR : RdR w w.heap.size C R) (hfr : Few R) (hlr : (R.length : Int) ≤ 1000000) :
    Calls Tryz.prog 15 #[.slice A l.length c, .slice C R.length f, .bool b] w fun e w' => ∃ v, e = .returned v ∧ NI w v (pickL (rulesL R) b l) w' := by
  obtain ⟨i0, hi, hz0, hz1, hz2⟩ := info_parts info_node
  have HF := hide hf
  have HA := hide hA
  obtain ⟨V, hV⟩ : ∃ V, V = pickL (rulesL R) b l := ⟨_, rfl⟩
  rw [← hV]
  have HQ0 := hide (show [] ++ pickL (rulesL R) b (l.drop 0) = V by rw [hV]; rfl)
  have HSh := hide (fun (n : Nd) (W : World) (hb : Below w.heap.size w W) (hp : (n.path.size : Int) ≤ 1000000) => refShutN_any C R f n W (hR.step hb) hfr hlr hp)
  clear hA hf hV hR hfr
  go_enter Tryz.func15, Tryz.ntmps15
  go_wp2_with fail
  go_loopg [7, 8] l.length (fun gk ov iv wr => ∃ (j : Nat) (E : Option Addr) (f : Nat) (o : List Nd), ov = .slice E o.length f ∧ iv = .int .i64 j ∧ j + gk = l.length ∧ o.length ≤ j ∧ Hid (NI w (.slice E o.length f) o wr) ∧ Hid (o ++ pickL (rulesL R) b (l.drop j) = V))
  case atStart => exact ⟨0, none, 0, [], rfl, rfl, by omega, by simp, hide ⟨Below.refl _ _, World.ownsRow_nil _ _ _ _⟩, HQ0⟩
  case round =>
    obtain ⟨j, E, f, o, rfl, rfl, hjg, hoj, HO, HQ⟩ := hrel
    clear HQ0
    cases gk with
    | zero =>
      have hE : V = o := by rw [← HQ.out, List.drop_of_length_le (by omega)]; simp [pickL]
      have HFin := hide (show NI w (.slice E o.length f) V wr by rw [hE]; exact HO.out)
      obtain rfl : j = l.length := by omega
      clear hE HQ HO
      go_wp2_with fail
      exact bodyPost_ret (results_tmp rfl _ _ _) rfl ⟨.slice E o.length f, rfl, HFin.out⟩
    | succ g1 =>
      have hji : (j : Int) < l.length := by omega
      have hj0 : (0 : Int) ≤ (j : Int) := by omega
      obtain ⟨n, hn⟩ : ∃ n, l[j]? = some n := ⟨_, List.getElem?_eq_getElem (by omega)⟩
      obtain ⟨ad, rfl, hlt, hnd⟩ := (HA.out.below HO.out.below (Nat.le_refl _)) j n hn
      have hltx : ad.block < wr.heap.size := Nat.lt_of_lt_of_le hlt HO.out.below.size
      have HND := hide (fun W (hb : Below wr.heap.size wr W) => hnd.below hb (by rw [add_block]; exact hltx))
      have hfew := HF.out j n hn
      have hd := HQ.out
      rw [pick_drop (rulesL R) b l j n hn] at hd
      have hjw : IntKind.i64.wrap ((j : Int) + 1) = ((j + 1 : Nat) : Int) := by rw [IntWalk.i64_in _ (by omega)]; rfl
      have HW := hide (fun W => refWithin_any n.path flit W hfew.1 (by decide))
      have HSn := hide (fun (W : World) (hb : Below wr.heap.size wr W) => HSh.out n W (HO.out.below.trans (hb.mono HO.out.below.size)) hfew.1)
      have hpk : pickB (rulesL R) b n = (!withinB (toL n.path) (toL flit) && (shutN (rulesL R) n == b)) := rfl
      rw [hpk] at hd
      clear hpk
      generalize withinB (toL n.path) (toL flit) = u at HW hd
      generalize shutN (rulesL R) n = z at HSn hd
      obtain ⟨c0, c1, c2, c3, c4⟩ := hnd
      obtain ⟨path, kind, mode, time, data⟩ := n
      simp only [Nd.cells] at c0 c1 c2 c3 c4 HW HSn
      clear HQ hn hfew hlt
      cases u with
      | true =>
        rw [if_neg (by simp), List.nil_append] at hd
        have HD := hide hd
        clear hd
        go_wp2_with (go_at_call 26; refine (HW.out _).mono ?_; rintro e w3 ⟨rfl, hb3⟩)
        have HO3 := hide (HO.out.step hb3)
        go_roundg g1
        case rel => exact ⟨j + 1, E, f, o, rfl, rfl, by omega, by omega, HO3, HD⟩
        case measure => omega
      | false =>
        cases hzb : (z == b) with
        | false =>
          rw [hzb, if_neg (by simp), List.nil_append] at hd
          have HD := hide hd
          clear hd
          go_wp2_with (first
            | (go_at_call 26; refine (HW.out _).mono ?_; rintro e w3 ⟨rfl, hb3⟩; obtain ⟨k0, k1, k2, k3, k4⟩ := HND.out w3 hb3; simp only at k0 k1 k2 k3 k4)
            | (go_at_call 25; refine (HSn.out _ hb3).mono ?_; rintro e w4 ⟨rfl, hb4⟩))
          have HO3 := hide (HO.out.step (hb3.trans (hb4.mono hb3.size)))
          go_roundg g1
          case rel => exact ⟨j + 1, E, f, o, rfl, rfl, by omega, by omega, HO3, HD⟩
          case measure => omega
        | true =>
          rw [hzb, if_pos (by rfl), ← List.append_assoc] at hd
          have HD := hide hd
          clear hd
          go_upto_if 31 with (first
            | (go_at_call 26; refine (HW.out _).mono ?_; rintro e w3 ⟨rfl, hb3⟩; obtain ⟨k0, k1, k2, k3, k4⟩ := HND.out w3 hb3; simp only at k0 k1 k2 k3 k4)
            | (go_at_call 25; refine (HSn.out _ hb3).mono ?_; rintro e w4 ⟨rfl, hb4⟩))
          have hb5 := hb3.trans (hb4.mono hb3.size)
          obtain ⟨m0, m1, m2, m3, m4⟩ := HND.out w4 hb5
          simp only at m0 m1 m2 m3 m4
          have hN3 := HO.out.step hb5
          have hO3 := hN3.own
          have hRn := RdN.one w4 ⟨path, kind, mode, time, data⟩ 36
          have hB3 := hN3.below.alloc hN3.below.size (.cells (Nd.cells ⟨path, kind, mode, time, data⟩) 36)
          have hsz := hB3.size
          clear hb3 hb4 hb5 hN3 c0 c1 c2 c3 c4 k0 k1 k2 k3 k4
          go_wp2_with (at_builtin; go_loud (refine wpList_append_nodes rfl _ _ 22 rfl w.heap.size 36 i0 Tryz.underlying22 hi hz0 hz1 hz2 _ _ _ rfl (hO3.alloc _) (some ⟨w4.heap.size, 0, none⟩) _ 1 _ [⟨path, kind, mode, time, data⟩] rfl rfl hRn (by unfold maxLen; omega) (by omega) hsz ?_))
          intro v5 w5 hO5 hg5
          have hB5 := hB3.grown hg5 hB3.size (fun r e => (hO3.lt r e).1)
          obtain ⟨D, g, rfl⟩ := ownsRow_slice hO5
          have hlen6 : (o ++ [(⟨path, kind, mode, time, data⟩ : Nd)]).length = o.length + 1 := by simp
          have HO6 := hide (show NI w (.slice D (o.length + 1) g) (o ++ [⟨path, kind, mode, time, data⟩]) w5 from ⟨hB5, by rw [cellsN_app, hlen6]; exact hO5⟩)
          clear hO3 hRn hB3 hO5 hg5 hB5 hsz m0 m1 m2 m3 m4
          go_wp2_with fail
          go_roundg g1
          case rel => exact ⟨j + 1, D, g, o ++ [⟨path, kind, mode, time, data⟩], by rw [hlen6], rfl, by omega, by rw [hlen6]; omega, by rw [hlen6]; exact HO6, HD⟩
          case measure => omega
end Go.Proofs.YteoafohebgfjdaaGreatDoor
/-
  What is in the well-formed tree that is taken of nodes; few nodes.
-/
namespace Go.Proofs.YteoafohebgfjdaaGreatDoor
open Go.RowKit
set_option maxRecDepth 100000

theorem at_none (p : ByteArray) : ∀ (s : List Nd) (i : Nat), atFrom p i s < 0 → ∀ m ∈ s, m.path ≠ p
  | [], _, _, m, hm => by cases hm
  | x :: s, i, h, m, hm => by
    unfold atFrom at h
    split at h
    · omega
    · rename_i hx
      rcases List.mem_cons.1 hm with rfl | hm
      · intro e
        apply hx
        unfold hit
        rw [e]; simp
      · exact at_none p s (i + 1) h m hm
theorem ins_apart {s : List Nd} {n : Nd} (k : Nat) (h : s.Pairwise fun a b => a.path ≠ b.path) (hn : ∀ m ∈ s, m.path ≠ n.path) : (s.take k ++ [n] ++ s.drop k).Pairwise fun a b => a.path ≠ b.path := by
  have h0 := h
  rw [← List.take_append_drop k s, List.pairwise_append] at h0
  obtain ⟨h1, h2, h3⟩ := h0
  rw [List.append_assoc, List.pairwise_append]
  refine ⟨h1, ?_, ?_⟩
  · rw [List.singleton_append, List.pairwise_cons]
    exact ⟨fun m hm e => hn m (List.mem_of_mem_drop hm) e.symm, h2⟩
  · intro a ha b hb
    rcases List.mem_cons.1 (by simpa using hb : b ∈ n :: s.drop k) with rfl | hb
    · exact hn a (List.mem_of_mem_take ha)
    · exact h3 a ha b hb
theorem sort_in : ∀ (l s : List Nd) (n : Nd), n ∈ sortFrom s l → n ∈ s ∨ (n ∈ l ∧ checkN n = 0)
  | [], s, n, h => .inl h
  | x :: l, s, n, h => by
    unfold sortFrom at h
    rcases sort_in l _ n h with h1 | ⟨h1, h2⟩
    · split at h1
      · rename_i hx
        unfold insL at h1
        simp only [List.mem_append, List.mem_singleton] at h1
        rcases h1 with (h1 | rfl) | h1
        · exact .inl (List.mem_of_mem_take h1)
        · exact .inr ⟨List.mem_cons_self, hx.1⟩
        · exact .inl (List.mem_of_mem_drop h1)
      · exact .inl h1
    · exact .inr ⟨List.mem_cons_of_mem _ h1, h2⟩
theorem sort_apart : ∀ (l s : List Nd), (s.Pairwise fun a b => a.path ≠ b.path) → (sortFrom s l).Pairwise fun a b => a.path ≠ b.path
  | [], s, h => h
  | x :: l, s, h => by
    unfold sortFrom
    split
    · rename_i hx
      exact sort_apart l _ (ins_apart _ h (at_none x.path s 0 hx.2))
    · exact sort_apart l s h
theorem take_sub : ∀ (l o : List Nd), o.length ≤ 512 → ∃ r, takeFrom o l = o ++ r ∧ r.Sublist l ∧ (takeFrom o l).length ≤ 512
  | [], o, h => ⟨[], by simp [takeFrom], List.Sublist.refl _, h⟩
  | x :: l, o, h => by
    unfold takeFrom
    split
    · rename_i hx
      obtain ⟨r, h1, h2, h3⟩ := take_sub l (o ++ [x]) (by rw [List.length_append, List.length_singleton]; omega)
      exact ⟨x :: r, by rw [h1, List.append_assoc]; rfl, h2.cons_cons x, h3⟩
    · obtain ⟨r, h1, h2, h3⟩ := take_sub l o h
      exact ⟨r, h1, h2.cons x, h3⟩
theorem tree_in {l : List Nd} {n : Nd} (h : n ∈ treeL l) : n ∈ l ∧ checkN n = 0 := by
  obtain ⟨r, h1, h2, _⟩ := take_sub (sortFrom [] l) [] (by simp)
  unfold treeL at h
  rw [h1, List.nil_append] at h
  rcases sort_in l [] n (h2.subset h) with h3 | h3
  · cases h3
  · exact h3
theorem tree_apart (l : List Nd) : (treeL l).Pairwise fun a b => a.path ≠ b.path := by
  obtain ⟨r, h1, h2, _⟩ := take_sub (sortFrom [] l) [] (by simp)
  unfold treeL
  rw [h1, List.nil_append]
  exact (sort_apart l [] List.Pairwise.nil).sublist h2
theorem tree_few (l : List Nd) : (treeL l).length ≤ 512 := by
  obtain ⟨r, _, _, h3⟩ := take_sub (sortFrom [] l) [] (by simp)
  exact h3
theorem check_kind {n : Nd} (h : checkN n = 0) : n.path.toList.isEmpty = false ∧ 1 ≤ n.kind ∧ n.kind ≤ 3 := by
  unfold checkN at h
  split at h
  · cases h
  · rename_i h1
    split at h
    · cases h
    · rename_i h2
      refine ⟨by cases he : n.path.toList.isEmpty with | false => rfl | true => exact absurd (.inl he) h1, ?_⟩
      by_cases a : n.kind = 1
      · omega
      · by_cases b : n.kind = 2
        · omega
        · by_cases c : n.kind = 3
          · omega
          · exact absurd ⟨a, b, c⟩ h2

/-- Few nodes. -/
def smallL (l : List Nd) : Bool := decide (l.length ≤ 24) && l.all fun n => decide (n.path.size ≤ 200) && decide (n.data.size ≤ 500)
theorem small_mem {l : List Nd} (h : smallL l = true) {n : Nd} (hn : n ∈ l) : n.path.size ≤ 200 ∧ n.data.size ≤ 500 := by
  unfold smallL at h
  rw [Bool.and_eq_true, List.all_eq_true] at h
  simpa using h.2 n hn
end Go.Proofs.YteoafohebgfjdaaGreatDoor
/-
  flittinglaw10.Small: are there few nodes?
-/
namespace Go.Proofs.YteoafohebgfjdaaGreatDoor
open Go.RowKit
set_option maxRecDepth 100000

theorem small_drop (l : List Nd) (i : Nat) (n : Nd) (h : l[i]? = some n) : (l.drop i).all (fun n => decide (n.path.size ≤ 200) && decide (n.data.size ≤ 500)) = ((decide (n.path.size ≤ 200) && decide (n.data.size ≤ 500)) && (l.drop (i + 1)).all fun n => decide (n.path.size ≤ 200) && decide (n.data.size ≤ 500)) := by
  obtain ⟨hlt, e⟩ := List.getElem?_eq_some_iff.1 h
  rw [List.drop_eq_getElem_cons hlt, e]; rfl

set_option maxHeartbeats 8000000 in
theorem small_any (A : Option Addr) (l : List Nd) (c : Nat) (w : World) (hA : RdN w w.heap.size A l) :
    Calls Tryz.prog 18 #[.slice A l.length c] w fun e w' => e = .returned (.bool (smallL l)) ∧ w' = w := by
  obtain ⟨V, hV⟩ : ∃ V, V = smallL l := ⟨_, rfl⟩
  rw [← hV]
  by_cases h24 : l.length ≤ 24
  · have hq : ¬ ((24 : Int) < l.length) := by omega
    have HV := hide (show (l.drop 0).all (fun n => decide (n.path.size ≤ 200) && decide (n.data.size ≤ 500)) = V by rw [hV]; unfold smallL; rw [decide_eq_true h24]; rfl)
    clear hV
    go_enter Tryz.func18, Tryz.ntmps18
    go_wp2_with fail
    go_loopg [3] l.length (fun gk iv wr => ∃ i : Nat, iv = .int .i64 i ∧ i + gk = l.length ∧ Hid ((l.drop i).all (fun n => decide (n.path.size ≤ 200) && decide (n.data.size ≤ 500)) = V) ∧ wr = w)
    case atStart => exact ⟨0, rfl, by omega, HV, rfl⟩
    case round =>
      obtain ⟨i, rfl, hig, HB, rfl⟩ := hrel
      cases gk with
      | zero =>
        obtain rfl : i = l.length := by omega
        have HE := hide (show V = true by rw [← HB.out, List.drop_length]; rfl)
        clear HB
        go_wp2_with fail
        exact bodyPost_ret (results_tmp rfl _ _ _) rfl ⟨by rw [HE.out]; rfl, rfl⟩
      | succ g0 =>
        have hii : (i : Int) < l.length := by omega
        obtain ⟨n, hn⟩ : ∃ n, l[i]? = some n := ⟨_, List.getElem?_eq_getElem (by omega)⟩
        obtain ⟨ad, rfl, hlt, hnd⟩ := hA i n hn
        have c0 := hnd.path
        have c4 := hnd.data
        have hd := HB.out
        rw [small_drop l i n hn] at hd
        have hiw : IntKind.i64.wrap ((i : Int) + 1) = ((i + 1 : Nat) : Int) := by rw [IntWalk.i64_in _ (by omega)]; rfl
        clear HB hn hnd
        by_cases hp : (200 : Int) < n.path.size
        · have HD := hide (show V = false by rw [← hd, decide_eq_false (show ¬ n.path.size ≤ 200 by omega)]; rfl)
          clear hd
          go_wp2_with fail
          exact bodyPost_ret (results_tmp rfl _ _ _) rfl ⟨by rw [HD.out]; rfl, rfl⟩
        · by_cases hq2 : (500 : Int) < n.data.size
          · have HD := hide (show V = false by rw [← hd, decide_eq_false (show ¬ n.data.size ≤ 500 by omega), Bool.and_false]; rfl)
            clear hd
            go_wp2_with fail
            exact bodyPost_ret (results_tmp rfl _ _ _) rfl ⟨by rw [HD.out]; rfl, rfl⟩
          · have HD := hide (show (l.drop (i + 1)).all (fun n => decide (n.path.size ≤ 200) && decide (n.data.size ≤ 500)) = V by rw [← hd, decide_eq_true (show n.path.size ≤ 200 by omega), decide_eq_true (show n.data.size ≤ 500 by omega)]; rfl)
            clear hd
            go_wp2_with fail
            go_roundg g0
            case rel => exact ⟨i + 1, rfl, by omega, HD, rfl⟩
            case measure => omega
  · have hq : (24 : Int) < l.length := by omega
    have HE := hide (show V = false by rw [hV]; unfold smallL; rw [decide_eq_false h24]; rfl)
    clear hV
    go_enter Tryz.func18, Tryz.ntmps18
    go_wp2_with fail
    exact bodyPost_ret (results_tmp rfl _ _ _) rfl ⟨by rw [HE.out]; rfl, rfl⟩
end Go.Proofs.YteoafohebgfjdaaGreatDoor
/-
  A path's names, of a path as bytes.
-/
namespace Go.Proofs.YteoafohebgfjdaaGreatDoor
open Go.RowKit
set_option maxRecDepth 100000

theorem toL_list (p : ByteArray) : p.toList = toL p := Lib.toList_data p
theorem upG_parent (p : ByteArray) : upG p = parentB p := toL_inj (by rw [(parent_names p).2]; rfl)
/-- A path's names. -/
def cutB (p : ByteArray) : List (List UInt8) := cutL (toL p)
def rightB (p : ByteArray) : Prop := rightL (toL p) = true
theorem glue_cutB (p : ByteArray) : glueL (cutB p) = toL p := glue_cut _
theorem cutB_inj {p q : ByteArray} (h : cutB p = cutB q) : p = q := toL_inj (by rw [← glue_cutB, ← glue_cutB, h])
theorem right_names' {p : ByteArray} (h : rightB p) : (cutB p).all nameL = true ∧ (cutB p).length ≤ 16 := by
  unfold rightB at h
  rw [right_cut, Bool.and_eq_true] at h
  exact ⟨h.1, of_decide_eq_true h.2⟩
/-- A path of such names. -/
theorem of_names {p : ByteArray} {D : List (List UInt8)} (h : toL p = glueL D) (hn : D.all nameL = true) (hl : D.length ≤ 16) : cutB p = D ∧ rightB p := by
  have h1 : cutB p = D := by unfold cutB; rw [h, cut_glue letter_slash D hn]
  refine ⟨h1, ?_⟩
  unfold rightB
  rw [right_cut, Bool.and_eq_true]
  unfold cutB at h1
  rw [h1]
  exact ⟨hn, decide_eq_true hl⟩
theorem cut_empty : cutB ⟨#[]⟩ = [] := rfl
theorem right_empty : rightB ⟨#[]⟩ := by unfold rightB; rw [right_cut]; rfl
theorem empty_iff (p : ByteArray) : p.toList.isEmpty = true ↔ cutB p = [] := by
  rw [toL_list, List.isEmpty_iff]
  constructor
  · intro h; unfold cutB; rw [h]; rfl
  · intro h; rw [← glue_cutB, h]; rfl

theorem sub_names {A D : List (List UInt8)} (h : (A ++ D).all nameL = true) (hl : (A ++ D).length ≤ 16) : D.all nameL = true ∧ D.length ≤ 16 := by
  rw [List.all_append, Bool.and_eq_true] at h
  rw [List.length_append] at hl
  exact ⟨h.2, by omega⟩
end Go.Proofs.YteoafohebgfjdaaGreatDoor
