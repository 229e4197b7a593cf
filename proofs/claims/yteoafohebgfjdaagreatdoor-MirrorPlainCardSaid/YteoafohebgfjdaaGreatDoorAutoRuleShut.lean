/-
  Texts that belong together: PathUpsSeq, RuleShut.
-/
import Derived.Test.YteoafohebgfjdaaGreatDoorAutoRoundRegion
import Derived.Test.YteoafohebgfjdaaGreatDoorAutoPathCutMore
import Derived.Shelf.RegionOpen
import Derived.Test.YteoafohebgfjdaaGreatDoorAutoRefShut
/-
  paths.Ups: the iterator's contract, over paths.Names's.
-/
namespace Go.Proofs.YteoafohebgfjdaaGreatDoor
open Go.RowKit Go.Shelf
set_option maxRecDepth 100000

attribute [local go_sem] Oper.semAt_some
set_option maxRecDepth 100000 in
set_option maxHeartbeats 2000000 in
theorem ups_seq (n : Nat) (b : Nat) (p : ByteArray) (w : World) (hp : (p.size : Int) ≤ 9223372036854775800) (hb : b < w.heap.size) (c : w.heap[b]? = some (.cells #[.string p] 9 (0, 0))) :
    SeqT Fence.wide n Tryz.prog 69 #[.pointer (some ⟨b, 0, none⟩)] (fun x : ByteArray => #[.string x]) [b]
      (fun xs => xs.map toL = upsL (toL p)) (fun pre => pre.map toL <+: upsL (toL p)) w := by
  refine seqT_any (n := 5) ?_
  obtain ⟨T, hT⟩ : ∃ T, T = upsL (toL p) := ⟨_, rfl⟩
  rw [← hT]
  have HT := hide hT
  clear hT
  intro l J Jx W hW hJ hJx hY h0
  have k1 : W.heap[b]? = some (.cells #[.string p] 9 (0, 0)) := (hW.block _ hb).trans c
  have hbW : b < W.heap.size := Nat.lt_of_lt_of_le hb hW.size
  clear c hW hb
  have d1 : W.cell? ⟨b, 0, none⟩ = some (.string p) := cell_of_row _ _ _ _ _ _ k1
  have dA : ∀ o o' : Obj, ((W.alloc o).alloc o').cell? ⟨b, 0, none⟩ = some (.string p) := fun o o' => cell_of_row _ _ _ _ _ _ (((Below.heap_alloc _ _ _ (by simp; omega)).trans (Below.heap_alloc _ _ _ hbW)).trans k1)
  refine callsIn_of_wp_marks Tryz.func69 rfl trivial ?_ rfl
  simp only [Tryz.ntmps69, List.size_toArray, List.length_cons, List.length_nil, Nat.reduceAdd, Nat.reduceSub, Array.replicate_succ, Array.replicate_zero, List.push_toArray, List.append_toArray, List.nil_append, List.cons_append]
  gi_wp2_with fail
  refine ⟨trivial, (callsIn_wide.2 (names_any p _)).mono ?_⟩
  rintro e w1 ⟨rfl, hw1⟩
  have hz1 : w1.heap.size = W.heap.size + 3 := by rw [hw1]; simp
  have kB : w1.heap[b]? = some (.cells #[.string p] 9 (0, 0)) := by
    rw [hw1, Below.heap_alloc _ _ _ (by simp; omega), Below.heap_alloc _ _ _ (by simp; omega), Below.heap_alloc _ _ _ hbW]; exact k1
  have kY : w1.heap[W.heap.size]? = some (.cells #[.func (.yield l) #[] #[]] 61 (0, 0)) := by
    rw [hw1, Below.heap_alloc _ _ _ (by simp <;> omega), Below.heap_alloc _ _ _ (by simp <;> omega)]
    exact World.alloc_heap_new _ _
  have kE : w1.heap[W.heap.size + 1]? = some (.cells #[.int .i64 0] 3 (0, 0)) := by
    rw [hw1, Below.heap_alloc _ _ _ (by simp <;> omega)]
    have h := World.alloc_heap_new (W.alloc (.cells #[.func (.yield l) #[] #[]] 61)) (Obj.cells #[.int .i64 0] 3)
    simp only [World.size_alloc] at h
    exact h
  have kP : w1.heap[W.heap.size + 2]? = some (.cells #[.string p] 9 (0, 0)) := by
    rw [hw1]
    have h := World.alloc_heap_new ((W.alloc (.cells #[.func (.yield l) #[] #[]] 61)).alloc (.cells #[.int .i64 0] 3)) (Obj.cells #[.string p] 9)
    simp only [World.size_alloc] at h
    exact h
  have j1 : ∀ X, W.heap.size ≤ X → J X [] w1 := fun X hX => by
    rw [hw1]
    exact hJ _ hX _ _ _ none (hJ _ hX _ _ _ none (hJ _ hX _ _ _ none (h0 _ hX) (World.grownBy_alloc _ _ none) (fun r e => by cases e)) (World.grownBy_alloc _ _ none) (fun r e => by cases e)) (World.grownBy_alloc _ _ none) (fun r e => by cases e)
  have e2 : ((W.alloc (.cells #[.func (.yield l) #[] #[]] 61)).alloc (.cells #[.int .i64 0] 3)).heap.size = W.heap.size + 2 := by simp
  rw [e2]
  clear hw1 e2 h0 dA d1 k1
  gi_wp2_with fail
  have sub : ∀ X r, w1.heap.size ≤ X → Its [] w1.heap.size X r → Its [b] W.heap.size X r := fun X r hX h => by
    rcases h with h | h
    · simp at h
    · exact .inr ⟨by omega, h.2⟩
  refine wpIn_rangeT (α := ByteArray) rfl (by omega) (gf := 84) (lb := #[.pointer (some ⟨W.heap.size + 2, 0, none⟩)]) rfl trivial
    (enters_of Tryz.func84 (by kernel_rfl) rfl) (L := []) (by intro k hk; simp at hk)
    (names_seq 4 (W.heap.size + 2) p w1 hp (by omega) kP) (fun _ => rfl)
    (fun X pre WW => (∃ us : List ByteArray, us.map toL = T.take pre.length ∧ J X us WW) ∧ WW.heap[W.heap.size]? = some (.cells #[.func (.yield l) #[] #[]] 61 (0, 0)) ∧
      WW.heap[W.heap.size + 1]? = some (.cells #[.int .i64 (endL (pre.map toL) : Nat)] 3 (0, 0)) ∧ WW.heap[b]? = some (.cells #[.string p] 9 (0, 0)))
    (fun X c pre WW => c = .ret ∧ ∃ us : List ByteArray, us.map toL <+: T ∧ Jx X us WW)
    ?hI ?hIx (fun X hX => ⟨⟨[], rfl, j1 X (by omega)⟩, kY, kE, kB⟩)
    (fun x => { tmps := #[.func (.yield l) #[] #[], .pointer (some ⟨b, 0, none⟩), .pointer (some ⟨W.heap.size, 0, none⟩), .pointer (some ⟨W.heap.size + 1, 0, none⟩), .string x, .string p,
      .func (.func 84) #[] #[.pointer (some ⟨W.heap.size + 2, 0, none⟩)], .string x, undef, undef, undef, undef, undef, undef, undef, undef, undef, undef, undef, undef, undef], defers := [] }) ?assign ?body ?done ?stop
  case hI =>
    rintro X hX pre A B row ⟨⟨us, h1, h2⟩, h3, h4, h5⟩ hg hr
    have ne : ∀ k, k < W.heap.size + 3 → ¬ row = some k := fun k hk e => by
      rcases hr k e with h | h
      · simp at h
      · omega
    exact ⟨⟨us, h1, hJ X (by omega) _ _ _ _ h2 hg (fun r e => sub X r (by omega) (hr r e))⟩, (hg.block _ (Array.getElem?_eq_some_iff.1 h3).1 (fun e => ne _ (by omega) e.symm)).trans h3,
      (hg.block _ (Array.getElem?_eq_some_iff.1 h4).1 (fun e => ne _ (by omega) e.symm)).trans h4, (hg.block _ (Array.getElem?_eq_some_iff.1 h5).1 (fun e => ne _ (by omega) e.symm)).trans h5⟩
  case hIx =>
    rintro X c hX pre A B row ⟨h1, us, h2, h3⟩ hg hr
    exact ⟨h1, us, h2, hJx X (by omega) _ _ _ _ h3 hg (fun r e => sub X r (by omega) (hr r e))⟩
  case assign =>
    intro ll x WW K hK
    gi_wp2
    exact hK
  case body =>
    rintro X ll pre x WW hX hXW ⟨⟨us, h1, h2⟩, h3, h4, h5⟩ hpre
    have hpre : pre.map toL ++ [toL x] <+: namesL (toL p) := by simpa using hpre
    obtain ⟨q1, q2, q3⟩ := names_prefix _ _ _ hpre
    rw [List.length_map] at q1 q2
    have hxs : (toL x).length = x.size := by simp [toL]
    have hps : (toL p).length = p.size := by simp [toL]
    obtain ⟨E, hE⟩ : ∃ E, E = endL (pre.map toL) := ⟨_, rfl⟩
    rw [← hE] at h4 q3
    rw [hxs, hps] at q3
    obtain ⟨k, hk⟩ : ∃ k, k = E - 1 := ⟨_, rfl⟩
    have hm : (if (E : Int) - 1 < 0 then (0 : Int) else (E : Int) - 1) = (k : Int) := by split <;> omega
    have hw : IntKind.i64.wrap ((E : Int) - 1) = (E : Int) - 1 := by
      rw [IntKind.wrap_i64]; omega
    have hks : (k : Int) ≤ p.size := by omega
    have c3 : WW.cell? ⟨W.heap.size, 0, none⟩ = some (.func (.yield l) #[] #[]) := cell_of_row _ _ _ _ _ _ h3
    have c4 : WW.cell? ⟨W.heap.size + 1, 0, none⟩ = some (.int .i64 (E : Nat)) := cell_of_row _ _ _ _ _ _ h4
    have c5 : WW.cell? ⟨b, 0, none⟩ = some (.string p) := cell_of_row _ _ _ _ _ _ h5
    have hmx : Tryz.prog.follows .mixedOrders = true := by kernel_rfl
    have hd2 : J X us WW.drew := hJ X (by omega) _ _ _ none h2 ⟨rfl, rfl, rfl, Nat.le_refl _, fun _ _ _ => rfl⟩ (fun r e => by cases e)
    have hy1 : toL (p.extract 0 k) = (toL p).take k := by unfold toL; rw [Lib.extract_data]; simp
    have hU : (us ++ [p.extract 0 k]).map toL = T.take (pre.length + 1) := by
      rw [HT.out, upsL_take _ _ q1, List.map_append, h1, HT.out, ← q2, ← hE, ← hk]
      simp [hy1]
    obtain ⟨fn, tmps, assign, body, hy, hR⟩ := hY X us (p.extract 0 k) WW.drew (by omega) hXW hd2 (show _ <+: _ by rw [hU]; exact List.take_prefix _ _)
    have HR := hide (show RoundIn Fence.wide 4 Tryz.prog l fn tmps assign body WW.drew (fun e W' => ∃ ok : Bool, e = .returned (.bool ok) ∧ Lies (Its [b] W.heap.size X) WW W' ∧ ((ok = true ∧ J X (us ++ [p.extract 0 k]) W') ∨ (ok = false ∧ Jx X (us ++ [p.extract 0 k]) W'))) from
      hR.mono (by
        rintro e W' (⟨rfl, hJ', hk⟩ | ⟨rfl, hJ', hk⟩)
        · exact ⟨true, rfl, hk, .inl ⟨rfl, hJ'⟩⟩
        · exact ⟨false, rfl, hk, .inr ⟨rfl, hJ'⟩⟩))
    have HU := hide hU
    have HE := hide hE
    have HJ := hide hJ
    clear hR hY hpre hJ hJx hd2 hy1 hU h1 h2 q1 q2 hE hk j1 kY kE kB kP hxs hps
    gi_wp2_with fail
    refine wpIn_mono (Q := fun e a' w' => e = .normal ∧ ∃ ok : Bool, a' = { tmps := #[.func (.yield l) #[] #[], .pointer (some ⟨b, 0, none⟩), .pointer (some ⟨W.heap.size, 0, none⟩), .pointer (some ⟨W.heap.size + 1, 0, none⟩), .string x, .string p,
      .func (.func 84) #[] #[.pointer (some ⟨W.heap.size + 2, 0, none⟩)], .string x, .func (.yield l) #[] #[], .string p, .int .i64 (E : Nat), .int .i64 ((E : Nat) - 1), .int .i64 (k : Nat), .string (p.extract 0 k), .bool ok, .bool (!ok), undef, undef, undef, undef, undef], defers := [] } ∧
      Lies (Its [b] W.heap.size X) WW w' ∧ ((ok = true ∧ J X (us ++ [p.extract 0 k]) w') ∨ (ok = false ∧ Jx X (us ++ [p.extract 0 k]) w'))) ?reg ?cont
    case reg =>
      gi_region_with_o (refine (roundIn_wide HR.out).mono ?_; rintro e W' ⟨ok, rfl, hk, hj⟩)
      all_goals exact ⟨rfl, ok, rfl, hk, hj⟩
    case cont =>
      rintro e a' w' ⟨rfl, ok, rfl, hk, hj⟩
      have v3 := (hk.2 W.heap.size (.inr ⟨Nat.le_refl _, by omega⟩)).trans h3
      have v4 := (hk.2 (W.heap.size + 1) (.inr ⟨by omega, by omega⟩)).trans h4
      have v5 := (hk.2 b (.inl (by simp))).trans h5
      clear c3 c4 c5 HR hy
      have c4 : w'.cell? ⟨W.heap.size + 1, 0, none⟩ = some (.int .i64 (E : Nat)) := cell_of_row _ _ _ _ _ _ v4
      have z4 : w'.frozen? ⟨W.heap.size + 1, 0, none⟩ = false := frozen_of_row _ _ _ _ _ v4
      have sub3 : Hid (∀ r, Its [] w1.heap.size X r → Its [b] W.heap.size X r) := fun r h => sub X r (by omega) h
      have HZ := hide hz1
      clear hz1
      cases ok with
      | true =>
        replace hj := hj.elim (fun h => h.2) (fun h => by cases h.1)
        gi_wp2_with fail
        have hz1 := HZ.out
        refine ⟨(hk.sub sub3.out).trans (.grown (grownBy_setCell _ _ _) (fun r hr => ?_) (fun r e hr => ?_)), ⟨us ++ [p.extract 0 k], by rw [HU.out]; simp, HJ.out X (by omega) _ _ _ _ hj (grownBy_setCell _ _ _) (fun r e => by cases e; exact .inr ⟨by simp, by simp; omega⟩)⟩,
          (heap_setCell_other _ _ _ _ (by simp)).trans v3, ?_, (heap_setCell_other _ _ _ _ (by simp; omega)).trans v5⟩
        · have := hk.1
          have := HZ.out
          rcases hr with h | h
          · simp at h
          · omega
        · cases e
          have := HZ.out
          rcases hr with h | h
          · simp at h
          · simp at h; omega
        · rw [List.map_append, endL_append, ← HE.out, show endL (List.map toL [x]) = x.size + 1 by simp [endL, toL]]
          exact heap_setCell_same _ _ _ _ _ _ v4
      | false =>
        replace hj := hj.elim (fun h => by cases h.1) (fun h => h.2)
        gi_wp2_with fail
        exact ⟨hk.sub sub3.out, rfl, us ++ [p.extract 0 k], by rw [HU.out]; exact List.take_prefix _ _, hj⟩
  case done =>
    rintro X D xs WW hX hD hDX hS ⟨⟨us, h1, h2⟩, h3, h4, h5⟩ hK
    have hj := hJ X (by omega) _ _ _ _ h2 (grownBy_putObj' _ D (.deferred none)) (fun r e => by cases e; exact .inr ⟨by omega, hDX⟩)
    have hU : us.map toL = T := by
      rw [h1, List.take_of_length_le]
      rw [HT.out, upsL_len, ← hS]; simp
    have HU := hide hU
    clear hJ hJx hY h1 h2 hU hS
    gi_wp2_with fail
    refine ⟨by simp, .inl ⟨_, _, rfl, run_takeDeferred hK, ?_⟩⟩
    exact ⟨_, results_none rfl _ _ _, ⟨_, rfl⟩, X, by omega, .inl ⟨us, HU.out, hj⟩⟩
  case stop =>
    rintro X D c pre WW hX hD hDX hS ⟨rfl, us, h1, h2⟩ hK
    have hj := hJx X (by omega) _ _ _ _ h2 (grownBy_putObj' _ D (.deferred none)) (fun r e => by cases e; exact .inr ⟨by omega, hDX⟩)
    have HU := hide h1
    clear hJ hJx hY h1 h2
    gi_wp2_with fail
    refine ⟨by simp, .inl ⟨_, _, rfl, run_takeDeferred hK, ?_⟩⟩
    exact ⟨_, results_none rfl _ _ _, ⟨_, rfl⟩, X, by omega, .inr ⟨us, HU.out, hj⟩⟩
end Go.Proofs.YteoafohebgfjdaaGreatDoor
/-
  The program's Shut.
-/
namespace Go.Proofs.YteoafohebgfjdaaGreatDoor
open Go.RowKit
set_option maxRecDepth 100000

theorem endL_glue : ∀ a : List (List UInt8), a ≠ [] → (glueL a).length + 1 = endL a
  | [], h => absurd rfl h
  | [x], _ => by simp [glueL, endL]
  | x :: y :: r, _ => by
    have ih := endL_glue (y :: r) (by simp)
    rw [glue_cons _ _ (by simp)]
    simp only [endL, List.map_cons, List.sum_cons, List.length_append, List.length_cons] at ih ⊢
    omega
theorem ups_glue (p : List UInt8) (i : Nat) (h1 : 1 ≤ i) (hi : i < (namesL p).length) : p.take (endL ((namesL p).take i) - 1) = glueL ((namesL p).take i) := by
  have hne : namesL p ≠ [] := fun e => by rw [e] at hi; simp at hi
  have hw := names_whole hne
  have ha : (namesL p).take i ≠ [] := fun e => by
    rcases List.take_eq_nil_iff.1 e with h | h
    · omega
    · exact hne h
  have hb : (namesL p).drop i ≠ [] := fun e => by have := List.drop_eq_nil_iff.1 e; omega
  have e := List.take_append_drop i (namesL p)
  have hg := endL_glue _ ha
  have hw2 : glueL ((namesL p).take i) ++ 47 :: glueL ((namesL p).drop i) = p := by
    rw [← glue_append _ _ ha hb, e, hw]
  have hl : endL ((namesL p).take i) - 1 = (glueL ((namesL p).take i)).length := by omega
  obtain ⟨t, ht⟩ : ∃ t, t = glueL ((namesL p).take i) := ⟨_, rfl⟩
  rw [hl]
  rw [← ht] at hw2 ⊢
  rw [← hw2]
  simp
theorem keeps_root (dir : Bool) : ∀ l : List (Bool × List UInt8), keepsL [] dir l = true
  | [] => rfl
  | r :: t => by
    unfold keepsL
    rw [matchesL_no (by rfl)]
    exact keeps_root dir t
theorem shut_ups (l : List (Bool × List UInt8)) (p : List UInt8) (dir : Bool) : shutL l p dir = ((upsL p).any (fun q => !keepsL q true l) || !keepsL p dir l) := by
  unfold shutL
  congr 1
  unfold upsL
  rw [List.any_map]
  cases hn : (namesL p).length with
  | zero => rfl
  | succ n =>
    rw [List.range_succ_eq_map, List.drop_succ_cons, List.drop_zero, List.any_cons]
    have h0 : ((fun q => !keepsL q true l) ∘ fun i => p.take (endL ((namesL p).take i) - 1)) 0 = false := by
      show (!keepsL (p.take (endL ((namesL p).take 0) - 1)) true l) = false
      rw [List.take_zero, show p.take (endL [] - 1) = [] from by simp [endL], keeps_root]; rfl
    rw [h0, Bool.false_or, List.any_map, List.any_map]
    rw [Bool.eq_iff_iff, List.any_eq_true, List.any_eq_true]
    have hh : ∀ j, j ∈ List.range n → ((fun i => !keepsL (glueL ((namesL p).take i)) true l) ∘ Nat.succ) j = (((fun q => !keepsL q true l) ∘ fun i => p.take (endL ((namesL p).take i) - 1)) ∘ Nat.succ) j := fun j hj => by
      have := List.mem_range.1 hj
      show (!keepsL (glueL ((namesL p).take (j + 1))) true l) = !keepsL (p.take (endL ((namesL p).take (j + 1)) - 1)) true l
      rw [ups_glue p (j + 1) (by omega) (by omega)]
    exact ⟨fun ⟨j, hj, h⟩ => ⟨j, hj, by rw [← hh j hj]; exact h⟩, fun ⟨j, hj, h⟩ => ⟨j, hj, by rw [hh j hj]; exact h⟩⟩

attribute [local go_sem] Oper.semAt_some
set_option maxHeartbeats 4000000 in
theorem shut_in (A : Option Addr) (l : List (Bool × ByteArray)) (c : Nat) (p : ByteArray) (dir : Bool) (w : World) (hA : RdR w w.heap.size A l) (hf : Few l) (hl : (l.length : Int) ≤ 1000000) (hp : (p.size : Int) ≤ 1000000) :
    CallsIn Fence.wide 5 Tryz.prog 70 #[.slice A l.length c, .string p, .bool dir] w fun e w' => e = .returned (.bool (shutL (rulesL l) (toL p) dir)) ∧ Below w.heap.size w w' := by
  obtain ⟨V, hV⟩ : ∃ V, V = shutL (rulesL l) (toL p) dir := ⟨_, rfl⟩
  rw [← hV]
  have HV := hide (hV.trans (shut_ups _ _ _))
  have HKeep := hide (fun (q : ByteArray) (d : Bool) (W : World) (h : Below w.heap.size w W) (hq : (q.size : Int) ≤ 1000000) => keeps_any A l c q d W ((hA.below h (Nat.le_refl _)).mono h.size) hf hl hq)
  clear hV hf hA
  refine callsIn_of_wp_marks Tryz.func70 rfl trivial ?_ rfl
  simp only [Tryz.ntmps70, List.size_toArray, List.length_cons, List.length_nil, Nat.reduceAdd, Nat.reduceSub, Array.replicate_succ, Array.replicate_zero, List.push_toArray, List.append_toArray, List.nil_append, List.cons_append]
  gi_wp2_with fail
  refine ⟨trivial, (callsIn_wide.2 (ups_any p _)).mono ?_⟩
  rintro e w1 ⟨rfl, hw1⟩
  have hz1 : w1.heap.size = w.heap.size + 3 := by rw [hw1]; simp
  have hB1 : Below w.heap.size w w1 := by rw [hw1]; exact (((Below.refl _ w).alloc (Nat.le_refl _) _).alloc (by simp) _).alloc (by simp; omega) _
  have r0 : w1.heap[w.heap.size]? = some (.cells #[.slice A l.length c] 23 (0, 0)) := by
    rw [hw1]
    rw [Below.heap_alloc _ _ _ (by simp <;> omega), Below.heap_alloc _ _ _ (by simp <;> omega)]
    exact World.alloc_heap_new _ _
  have r1 : w1.heap[w.heap.size + 1]? = some (.cells #[.bool false] 4 (0, 0)) := by
    rw [hw1]
    rw [Below.heap_alloc _ _ _ (by simp <;> omega)]
    have h := World.alloc_heap_new (w.alloc (.cells #[.slice A l.length c] 23)) (Obj.cells #[.bool false] 4)
    simp only [World.size_alloc] at h
    exact h
  have r2 : w1.heap[w.heap.size + 2]? = some (.cells #[.string p] 9 (0, 0)) := by
    rw [hw1]
    have h := World.alloc_heap_new ((w.alloc (.cells #[.slice A l.length c] 23)).alloc (.cells #[.bool false] 4)) (Obj.cells #[.string p] 9)
    simp only [World.size_alloc] at h
    exact h
  clear hw1
  have e2 : ((w.alloc (Obj.cells #[.slice A l.length c] 23)).alloc (Obj.cells #[Value.bool false] 4)).heap.size = w.heap.size + 2 := by simp
  rw [e2]
  gi_wp2_with fail
  refine wpIn_rangeT (α := ByteArray) rfl (by omega) (gf := 69) (lb := #[.pointer (some ⟨w.heap.size + 2, 0, none⟩)]) rfl trivial
    (enters_of Tryz.func69 (by kernel_rfl) rfl) (L := [w.heap.size + 2]) (by intro k hk; simp at hk; omega)
    (ups_seq 4 (w.heap.size + 2) p w1 (by omega) (by omega) r2) (fun _ => rfl)
    (fun X pre W => Hid ((pre.map toL).any (fun q => !keepsL q true (rulesL l)) = false) ∧ W.heap[w.heap.size]? = some (.cells #[.slice A l.length c] 23 (0, 0)) ∧ W.heap[w.heap.size + 1]? = some (.cells #[.bool false] 4 (0, 0)) ∧ Below w.heap.size w W)
    (fun X c pre W => c = .ret ∧ W.heap[w.heap.size + 1]? = some (.cells #[.bool V] 4 (0, 0)) ∧ Below w.heap.size w W)
    ?hI ?hIx (fun X hX => ⟨rfl, r0, r1, hB1⟩)
    (fun x => { tmps := #[.slice A l.length c, .string p, .bool dir, .pointer (some ⟨w.heap.size, 0, none⟩), undef, undef, .pointer (some ⟨w.heap.size + 1, 0, none⟩), .string x, .string p,
      .func (.func 69) #[] #[.pointer (some ⟨w.heap.size + 2, 0, none⟩)], .string x, undef, undef, undef, undef, undef, undef, undef, undef, undef], defers := [] }) ?assign ?body ?done ?stop
  case hI =>
    rintro X hX pre A B row ⟨h1, h2, h3, h4⟩ hg hr
    have ne : ∀ k, k < w.heap.size + 2 → ¬ row = some k := fun k hk e => by
      rcases hr k e with h | h
      · simp at h; omega
      · omega
    exact ⟨h1, (hg.block _ (Array.getElem?_eq_some_iff.1 h2).1 (fun e => ne _ (by omega) e.symm)).trans h2, (hg.block _ (Array.getElem?_eq_some_iff.1 h3).1 (fun e => ne _ (by omega) e.symm)).trans h3, h4.grown hg h4.size (fun k e => Nat.le_of_not_lt (fun hk => ne k (by omega) e))⟩
  case hIx =>
    rintro X c hX pre A B row ⟨h1, h3, h4⟩ hg hr
    have ne : ∀ k, k < w.heap.size + 2 → ¬ row = some k := fun k hk e => by
      rcases hr k e with h | h
      · simp at h; omega
      · omega
    exact ⟨h1, (hg.block _ (Array.getElem?_eq_some_iff.1 h3).1 (fun e => ne _ (by omega) e.symm)).trans h3, h4.grown hg h4.size (fun k e => Nat.le_of_not_lt (fun hk => ne k (by omega) e))⟩
  case assign =>
    intro l x W K hK
    gi_wp2
    exact hK
  case body =>
    rintro X ll pre x W hX hXW ⟨h1, h2, h3, h4⟩ hlen
    rw [List.map_append] at hlen
    have hlx : (x.size : Int) ≤ 1000000 := by
      have hm : toL x ∈ upsL (toL p) := hlen.subset (by simp)
      unfold upsL at hm
      rw [List.mem_map] at hm
      obtain ⟨i, _, hi⟩ := hm
      have h := congrArg List.length hi
      rw [List.length_take, size_toL, size_toL] at h
      omega
    have c2 : W.cell? ⟨w.heap.size, 0, none⟩ = some (.slice A l.length c) := cell_of_row _ _ _ _ _ _ h2
    obtain ⟨b, hbb⟩ : ∃ b, b = keepsL (toL x) true (rulesL l) := ⟨_, rfl⟩
    have HM := hide (HKeep.out x true W h4 hlx)
    rw [← hbb] at HM
    have HY := hide (show b = false → V = true from fun h => by
      rw [HV.out, Bool.or_eq_true]
      left
      rw [List.any_eq_true]
      exact ⟨toL x, hlen.subset (by simp), by rw [← hbb, h]; rfl⟩)
    have HC := hide (show b = true → ((pre ++ [x]).map toL).any (fun q => !keepsL q true (rulesL l)) = false from fun h => by
      rw [List.map_append, List.any_append, h1.out]
      simp [← hbb, h])
    have hxs : w1.heap.size ≤ W.heap.size := by have := hXW; omega
    have hz1' := hide hz1
    clear hlen hlx h1 hbb hz1 e2
    gi_wp2_with fail
    refine ⟨trivial, (CallsIn.inRound ll (callsIn_wide.2 HM.out)).mono ?_⟩
    rintro e w2 ⟨rfl, hb2⟩
    have hl2 := (Array.getElem?_eq_some_iff.1 h2).1
    have hl3 := (Array.getElem?_eq_some_iff.1 h3).1
    have g2 := (hb2.block _ hl2).trans h2
    have g3 := (hb2.block _ hl3).trans h3
    have d3 : w2.cell? ⟨w.heap.size + 1, 0, none⟩ = some (.bool false) := cell_of_row _ _ _ _ _ _ g3
    have z3 : w2.frozen? ⟨w.heap.size + 1, 0, none⟩ = false := frozen_of_row _ _ _ _ _ g3
    have hB2 : Below w.heap.size w w2 := h4.trans (hb2.mono h4.size)
    have hK2 : Lies (Its [w.heap.size + 2] w1.heap.size X) W w2 := ⟨hb2.size, fun k hk => hb2.block k (by
      have := hz1'.out
      rcases hk with hk | hk
      · simp at hk; omega
      · omega)⟩
    have hK3 : ∀ v : Value, Lies (Its [w.heap.size + 2] w1.heap.size X) W (w2.setCell ⟨w.heap.size + 1, 0, none⟩ v) := fun v => hK2.trans (.grown (grownBy_setCell _ _ _) (fun k hk => by
      have := hb2.size
      have := hz1'.out
      rcases hk with hk | hk
      · simp at hk; omega
      · omega) (fun r e hk => by
      cases e
      have := hz1'.out
      rcases hk with hk | hk
      · simp at hk
      · simp at hk; omega))
    have hB3 : ∀ v : Value, Below w.heap.size w (w2.setCell ⟨w.heap.size + 1, 0, none⟩ v) := fun v => hB2.setCell (p := ⟨w.heap.size + 1, 0, none⟩) (by simp) _
    clear c2 hb2 h2 h3 h4 HM hX hXW hxs hl2 hl3
    cases b with
    | false =>
      have HVt := hide (HY.out rfl)
      clear HY HC
      gi_wp2_with fail
      refine ⟨hK3 _, rfl, ?_, hB3 _⟩
      rw [HVt.out]; exact heap_setCell_same _ _ _ _ _ _ g3
    | true =>
      have HC2 := hide (HC.out rfl)
      clear HY HC
      gi_wp2_with fail
      exact ⟨hK2, HC2.out, g2, g3, hB2⟩
  case done =>
    rintro X D xs W hX hD hDX hS ⟨h1, h2, h3, h4⟩ hK
    have c2 : W.cell? ⟨w.heap.size, 0, none⟩ = some (.slice A l.length c) := cell_of_row _ _ _ _ _ _ h2
    obtain ⟨b, hbb⟩ : ∃ b, b = keepsL (toL p) dir (rulesL l) := ⟨_, rfl⟩
    have HM := hide (HKeep.out p dir W h4 hp)
    rw [← hbb] at HM
    have HVf := hide (show V = !b by rw [HV.out, ← hS, h1.out, ← hbb]; rfl)
    have hz1' := hide hz1
    clear hS h1 hbb hz1 e2
    gi_wp2_with fail
    refine ⟨trivial, (callsIn_wide.2 HM.out).mono ?_⟩
    rintro e w2 ⟨rfl, hb2⟩
    have hl3 := (Array.getElem?_eq_some_iff.1 h3).1
    have g3 := (hb2.block _ hl3).trans h3
    have gD := (hb2.block _ (Array.getElem?_eq_some_iff.1 hK).1).trans hK
    have d3 : w2.cell? ⟨w.heap.size + 1, 0, none⟩ = some (.bool false) := cell_of_row _ _ _ _ _ _ g3
    have z3 : w2.frozen? ⟨w.heap.size + 1, 0, none⟩ = false := frozen_of_row _ _ _ _ _ g3
    have hB2 : Below w.heap.size w w2 := h4.trans (hb2.mono h4.size)
    clear c2 hb2 h2 h4 HM hl3 hK
    gi_wp2_with fail
    have hzz := hz1'.out
    have hK' : (w2.setCell ⟨w.heap.size + 1, 0, none⟩ (.bool (!b))).heap[D]? = some (.deferred (some [])) := (heap_setCell_other _ _ _ _ (by simp; omega)).trans gD
    refine ⟨by simp, .inl ⟨_, _, rfl, run_takeDeferred hK', ?_⟩⟩
    have hc5 : ((w2.setCell ⟨w.heap.size + 1, 0, none⟩ (.bool (!b))).putObj D (.deferred none)).cell? ⟨w.heap.size + 1, 0, none⟩ = some (.bool (!b)) :=
      cell_of_row _ _ _ _ _ _ ((World.putObj_heap_other (by omega)).trans (heap_setCell_same _ _ _ _ _ _ g3))
    refine ⟨.bool (!b), ?_, by rw [HVf.out], ?_⟩
    · simp [results, Tryz.f70, go_sem, hc5]
    · exact (hB2.setCell (p := ⟨w.heap.size + 1, 0, none⟩) (by simp) _).grown (grownBy_putObj' _ D (.deferred none)) (by have := hB2.size; simp [World.setCell]; omega) (fun r e => by cases e; omega)
  case stop =>
    rintro X D c pre W hX hD hDX hS ⟨rfl, h3, h4⟩ hK
    gi_wp2_with fail
    refine ⟨by simp, .inl ⟨_, _, rfl, run_takeDeferred hK, ?_⟩⟩
    have hc5 : (W.putObj D (.deferred none)).cell? ⟨w.heap.size + 1, 0, none⟩ = some (.bool V) :=
      cell_of_row _ _ _ _ _ _ ((World.putObj_heap_other (by omega)).trans h3)
    refine ⟨.bool V, ?_, rfl, ?_⟩
    · simp [results, Tryz.f70, go_sem, hc5]
    · exact h4.grown (grownBy_putObj' _ D (.deferred none)) h4.size (fun r e => by cases e; omega)
theorem shut_any (A : Option Addr) (l : List (Bool × ByteArray)) (c : Nat) (p : ByteArray) (dir : Bool) (w : World) (hA : RdR w w.heap.size A l) (hf : Few l) (hl : (l.length : Int) ≤ 1000000) (hp : (p.size : Int) ≤ 1000000) :
    Calls Tryz.prog 70 #[.slice A l.length c, .string p, .bool dir] w fun e w' => e = .returned (.bool (shutL (rulesL l) (toL p) dir)) ∧ Below w.heap.size w w' :=
  callsIn_wide.1 (shut_in A l c p dir w hA hf hl hp)
end Go.Proofs.YteoafohebgfjdaaGreatDoor
