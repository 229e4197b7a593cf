/-
  Texts that belong together: PathNamesL, PathNames, PathUpsPub, HeldStep, RoundRegion.
-/
import Derived.Test.YteoafohebgfjdaaGreatDoorPathRight
import Derived.Test.YteoafohebgfjdaaGreatDoorAutoBytes
import Derived.OrdersHeld
import Derived.OrdersIn
import Derived.OwnWalkIn
import Derived.RangeFuncCalls
/-
  A path's names; what SplitSeq leaves.
-/
namespace Go.Proofs.YteoafohebgfjdaaGreatDoor
open Go.RowKit Go.Shelf
set_option maxRecDepth 100000

theorem roundIn_wide {n m k : Nat} {P : Program} {l : Nat} {f : FuncId} {tmps : Array Value} {assign body : Code} {w : World} {R : Ending → World → Prop}
    (h : RoundIn Fence.wide n P l f tmps assign body w R) : RoundIn (Fence.wide.inRound k) m P l f tmps assign body w R := ⟨trivial, fun c cs _ => h.2 c cs (room_wide _)⟩
theorem roundIn_any {n m : Nat} {P : Program} {l : Nat} {f : FuncId} {tmps : Array Value} {assign body : Code} {w : World} {R : Ending → World → Prop}
    (h : RoundIn Fence.wide n P l f tmps assign body w R) : RoundIn Fence.wide m P l f tmps assign body w R := ⟨trivial, fun c cs _ => h.2 c cs (room_wide _)⟩

theorem seqT_any {α : Type} {n m : Nat} {P : Program} {g : Nat} {lb : Array Value} {encs : α → Array Value} {L : List Nat} {S Sp : List α → Prop} {w : World}
    (h : SeqT Fence.wide n P g lb encs L S Sp w) : SeqT Fence.wide m P g lb encs L S Sp w := by
  intro l J Jx W hW hJ hJx hY h0
  refine callsIn_wide.2 (callsIn_wide.1 (h l J Jx W hW hJ hJx ?_ h0))
  intro X pre x W1 hX hX1 hj hl
  obtain ⟨fn, tmps, assign, body, hy, hR⟩ := hY X pre x W1 hX hX1 hj hl
  exact ⟨fn, tmps, assign, body, hy, roundIn_any hR⟩

/-- A path's names. -/
def namesL (p : List UInt8) : List (List UInt8) := if p.isEmpty || !rightL p then [] else splitL p

/-- What SplitSeq leaves: its three blocks. -/
theorem split_made (s : ByteArray) (w : World) (Q : Ending → World → Prop)
    (h : ∀ w1 : World, w1.heap.size = w.heap.size + 3 → Below w.heap.size w w1 → w1.heap[w.heap.size]? = some (.cells #[.string s] 9 (0, 0)) → w1.heap[w.heap.size + 1]? = some (.cells #[.string ⟨#[47]⟩] 9 (0, 0)) →
      w1.heap[w.heap.size + 2]? = some (.cells #[.int .i64 0] 3 (0, 0)) →
      Q (.returned (.func (.func 106) #[] #[.pointer (some ⟨w.heap.size + 1, 0, none⟩), .pointer (some ⟨w.heap.size, 0, none⟩), .pointer (some ⟨w.heap.size + 2, 0, none⟩)])) w1) :
    Calls Tryz.prog 85 #[.string s, .string ⟨#[47]⟩] w Q := by
  refine (splitSeq_any s w).mono ?_
  rintro e w1 ⟨rfl, hw1⟩
  refine h w1 (by rw [hw1]; simp) (by rw [hw1]; exact (((Below.refl _ w).alloc (Nat.le_refl _) _).alloc (by simp) _).alloc (by simp; omega) _) ?_ ?_ ?_
  · rw [hw1]
    rw [Below.heap_alloc _ _ _ (by simp <;> omega), Below.heap_alloc _ _ _ (by simp <;> omega)]
    exact World.alloc_heap_new _ _
  · rw [hw1]
    rw [Below.heap_alloc _ _ _ (by simp <;> omega)]
    have h := World.alloc_heap_new (w.alloc (.cells #[.string s] 9)) (Obj.cells #[.string ⟨#[47]⟩] 9)
    simp only [World.size_alloc] at h
    exact h
  · rw [hw1]
    have h := World.alloc_heap_new ((w.alloc (.cells #[.string s] 9)).alloc (.cells #[.string ⟨#[47]⟩] 9)) (Obj.cells #[.int .i64 0] 3)
    simp only [World.size_alloc] at h
    exact h

theorem namesL_len (p : List UInt8) : (namesL p).length ≤ 16 := by
  unfold namesL
  split
  · simp
  · rename_i h
    simp only [Bool.or_eq_true, Bool.not_eq_true', not_or, Bool.not_eq_true, Bool.not_eq_false] at h
    have h2 := h.2
    unfold rightL at h2
    rw [h.1, Bool.false_or, Bool.and_eq_true] at h2
    exact of_decide_eq_true h2.2
end Go.Proofs.YteoafohebgfjdaaGreatDoor
/-
  paths.Names: the iterator's contract, over strings.SplitSeq's.
-/
namespace Go.Proofs.YteoafohebgfjdaaGreatDoor
open Go.RowKit Go.Shelf
set_option maxRecDepth 100000

attribute [local go_sem] Oper.semAt_some
set_option maxRecDepth 100000 in
set_option maxHeartbeats 2000000 in
theorem names_seq (n : Nat) (b : Nat) (p : ByteArray) (w : World) (hp : (p.size : Int) ≤ 9223372036854775800) (hb : b < w.heap.size) (c : w.heap[b]? = some (.cells #[.string p] 9 (0, 0))) :
    SeqT Fence.wide n Tryz.prog 84 #[.pointer (some ⟨b, 0, none⟩)] (fun x : ByteArray => #[.string x]) []
      (fun xs => xs.map toL = namesL (toL p)) (fun pre => pre.map toL <+: namesL (toL p)) w := by
  refine seqT_any (n := 5) ?_
  obtain ⟨T, hT⟩ : ∃ T, T = namesL (toL p) := ⟨_, rfl⟩
  rw [← hT]
  have HT := hide hT
  clear hT
  intro l J Jx W hW hJ hJx hY h0
  have k1 : W.heap[b]? = some (.cells #[.string p] 9 (0, 0)) := (hW.block _ hb).trans c
  have hbW : b < W.heap.size := Nat.lt_of_lt_of_le hb hW.size
  clear c hW hb
  have d1 : W.cell? ⟨b, 0, none⟩ = some (.string p) := cell_of_row _ _ _ _ _ _ k1
  have dA : ∀ o : Obj, (W.alloc o).cell? ⟨b, 0, none⟩ = some (.string p) := fun o => cell_of_row _ _ _ _ _ _ ((Below.heap_alloc _ _ _ hbW).trans k1)
  refine callsIn_of_wp_marks Tryz.func84 rfl trivial ?_ rfl
  simp only [Tryz.ntmps84, List.size_toArray, List.length_cons, List.length_nil, Nat.reduceAdd, Nat.reduceSub, Array.replicate_succ, Array.replicate_zero, List.push_toArray, List.append_toArray, List.nil_append, List.cons_append]
  cases hne : p.toList.isEmpty with
  | true =>
    have hN : T = [] := by rw [HT.out]; unfold namesL toL; rw [← Lib.toList_data, hne]; rfl
    have hE : (∃ X, W.heap.size ≤ X ∧ ((∃ xs : List ByteArray, xs.map toL = T ∧ J X xs (W.alloc (.cells #[.func (.yield l) #[] #[]] 61 (0, 0)))) ∨ (∃ pre : List ByteArray, pre.map toL <+: T ∧ Jx X pre (W.alloc (.cells #[.func (.yield l) #[] #[]] 61 (0, 0)))))) :=
      ⟨W.heap.size, Nat.le_refl _, .inl ⟨[], by rw [hN]; rfl, hJ _ (Nat.le_refl _) _ _ _ none (h0 _ (Nat.le_refl _)) (World.grownBy_alloc _ _ none) (fun r e => by cases e)⟩⟩
    have HE := hide hE
    clear hE hN hJ hJx hY h0
    gi_wp2_with fail
    refine ⟨trivial, ?_⟩
    gi_wp2_with fail
    refine ⟨_, results_none rfl _ _ _, ⟨_, rfl⟩, HE.out⟩
  | false =>
    gi_wp2_with fail
    refine ⟨trivial, (callsIn_wide.2 (right_any p _ hp)).mono ?_⟩
    rintro e w1 ⟨rfl, hB1⟩
    have k2 : w1.heap[b]? = some (.cells #[.string p] 9 (0, 0)) := (hB1.block _ (by simp; omega)).trans ((Below.heap_alloc _ _ _ hbW).trans k1)
    have kY : w1.heap[W.heap.size]? = some (.cells #[.func (.yield l) #[] #[]] 61 (0, 0)) := (hB1.block _ (by simp)).trans (World.alloc_heap_new _ _)
    have d2 : w1.cell? ⟨b, 0, none⟩ = some (.string p) := cell_of_row _ _ _ _ _ _ k2
    cases hr : rightL p.data.toList with
    | false =>
      have hN : T = [] := by rw [HT.out]; unfold namesL; rw [show rightL (toL p) = false from hr]; simp
      have hE : (∃ X, W.heap.size ≤ X ∧ ((∃ xs : List ByteArray, xs.map toL = T ∧ J X xs w1) ∨ (∃ pre : List ByteArray, pre.map toL <+: T ∧ Jx X pre w1))) :=
        ⟨W.heap.size, Nat.le_refl _, .inl ⟨[], by rw [hN]; rfl, hJ _ (Nat.le_refl _) _ _ _ none (hJ _ (Nat.le_refl _) _ _ _ none (h0 _ (Nat.le_refl _)) (World.grownBy_alloc _ _ none) (fun r e => by cases e)) (grownBy_below hB1) (fun r e => by cases e)⟩⟩
      have HE := hide hE
      clear hE hN hJ hJx hY h0
      gi_wp2_with fail
      refine ⟨_, results_none rfl _ _ _, ⟨_, rfl⟩, HE.out⟩
    | true =>
      have hN : T = splitL (toL p) := by rw [HT.out]; unfold namesL; rw [show rightL (toL p) = true from hr, show (toL p).isEmpty = false by unfold toL; rw [← Lib.toList_data]; exact hne]; rfl
      have HN := hide hN
      have j1 : ∀ X, W.heap.size ≤ X → J X [] w1 := fun X hX => hJ _ hX _ _ _ none (hJ _ hX _ _ _ none (h0 _ hX) (World.grownBy_alloc _ _ none) (fun r e => by cases e)) (grownBy_below hB1) (fun r e => by cases e)
      have hz1 : W.heap.size + 1 ≤ w1.heap.size := by have := hB1.size; simp at this; omega
      clear hN h0 hB1 k1 d1 dA
      gi_wp2_with fail
      refine ⟨trivial, (callsIn_wide.2 (split_made p _ _ ?_)).mono (fun e w' h => h)⟩
      intro w2 hz2 hB2 r2 r3 r4
      have kY2 := (hB2.block _ (by omega)).trans kY
      have j2 : ∀ X, W.heap.size ≤ X → J X [] w2 := fun X hX => hJ _ hX _ _ _ none (j1 X hX) (grownBy_below hB2) (fun r e => by cases e)
      clear hB2 kY j1 k2 d2
      gi_wp2_with fail
      have sub : ∀ X r, w2.heap.size ≤ X → Its [w1.heap.size, w1.heap.size + 1, w1.heap.size + 2] w2.heap.size X r → Its [] W.heap.size X r := fun X r hX h => by
        rcases h with h | h
        · simp at h; exact .inr ⟨by omega, by omega⟩
        · exact .inr ⟨by omega, h.2⟩
      refine wpIn_rangeT (α := ByteArray) rfl (by omega) (gf := 106) (lb := #[.pointer (some ⟨w1.heap.size + 1, 0, none⟩), .pointer (some ⟨w1.heap.size, 0, none⟩), .pointer (some ⟨w1.heap.size + 2, 0, none⟩)]) rfl trivial
        (enters_of Tryz.func106 (by kernel_rfl) rfl) (L := [w1.heap.size, w1.heap.size + 1, w1.heap.size + 2]) (by intro k hk; simp at hk; omega)
        (split_seq 4 w1.heap.size (w1.heap.size + 1) (w1.heap.size + 2) p w2 hp (by omega) (by omega) (by omega) (by omega) (by omega) r2 r3 r4) (fun _ => rfl)
        (fun X pre WW => J X pre WW ∧ WW.heap[W.heap.size]? = some (.cells #[.func (.yield l) #[] #[]] 61 (0, 0)))
        (fun X c pre WW => c = .ret ∧ Jx X pre WW)
        ?hI ?hIx (fun X hX => ⟨j2 X (by omega), kY2⟩)
        (fun x => { tmps := #[.func (.yield l) #[] #[], .pointer (some ⟨b, 0, none⟩), .pointer (some ⟨W.heap.size, 0, none⟩), .string x, .string p, .bool false, .bool false, .string p, .bool true, .bool false, .bool false, .string p,
          .func (.func 106) #[] #[.pointer (some ⟨w1.heap.size + 1, 0, none⟩), .pointer (some ⟨w1.heap.size, 0, none⟩), .pointer (some ⟨w1.heap.size + 2, 0, none⟩)], .string x, undef, undef, undef, undef], defers := [] }) ?assign ?body ?done ?stop
      case hI =>
        rintro X hX pre A B row ⟨h1, h2⟩ hg hr
        refine ⟨hJ X (by omega) _ _ _ _ h1 hg (fun r e => sub X r (by omega) (hr r e)), (hg.block _ (Array.getElem?_eq_some_iff.1 h2).1 (fun e => ?_)).trans h2⟩
        rcases hr _ e.symm with h | h
        · simp at h; omega
        · omega
      case hIx =>
        rintro X c hX pre A B row ⟨h1, h2⟩ hg hr
        exact ⟨h1, hJx X (by omega) _ _ _ _ h2 hg (fun r e => sub X r (by omega) (hr r e))⟩
      case assign =>
        intro ll x WW K hK
        gi_wp2
        exact hK
      case body =>
        rintro X ll pre x WW hX hXW ⟨h1, h2⟩ hlen
        have f2 : WW.cell? ⟨W.heap.size, 0, none⟩ = some (.func (.yield l) #[] #[]) := cell_of_row _ _ _ _ _ _ h2
        obtain ⟨fn, tmps, assign, body, hy, hR⟩ := hY X pre x WW (by omega) hXW h1 (show _ <+: _ by rw [HN.out]; exact hlen)
        have HR := hide hR
        clear hR hY
        gi_wp2_with fail
        refine (roundIn_wide HR.out).mono ?_
        rintro e W' (⟨rfl, hJ', hk⟩ | ⟨rfl, hJ', hk⟩)
        · gi_wp2_with fail
          exact ⟨hk.sub (fun r => sub X r (by omega)), hJ', (hk.2 _ (.inr ⟨Nat.le_refl _, by omega⟩)).trans h2⟩
        · gi_wp2_with fail
          exact ⟨hk.sub (fun r => sub X r (by omega)), rfl, hJ'⟩
      case done =>
        rintro X D xs WW hX hD hDX hS ⟨h1, h2⟩ hK
        have hj := hJ X (by omega) _ _ _ _ h1 (grownBy_putObj' _ D (.deferred none)) (fun r e => by cases e; exact .inr ⟨by omega, hDX⟩)
        clear hJ hJx hY h1
        gi_wp2_with fail
        refine ⟨by simp, .inl ⟨_, _, rfl, run_takeDeferred hK, ?_⟩⟩
        exact ⟨_, results_none rfl _ _ _, ⟨_, rfl⟩, X, by omega, .inl ⟨xs, by rw [HN.out]; exact hS, hj⟩⟩
      case stop =>
        rintro X D c pre WW hX hD hDX hS ⟨rfl, h2⟩ hK
        have hj := hJx X (by omega) _ _ _ _ h2 (grownBy_putObj' _ D (.deferred none)) (fun r e => by cases e; exact .inr ⟨by omega, hDX⟩)
        clear hJ hJx hY h2
        gi_wp2_with fail
        refine ⟨by simp, .inl ⟨_, _, rfl, run_takeDeferred hK, ?_⟩⟩
        exact ⟨_, results_none rfl _ _ _, ⟨_, rfl⟩, X, by omega, .inr ⟨pre, by rw [HN.out]; exact hS, hj⟩⟩
end Go.Proofs.YteoafohebgfjdaaGreatDoor
/-
  paths.Names and paths.Depth; paths.Ups: the iterator's contract, over paths.Names's.
-/
namespace Go.Proofs.YteoafohebgfjdaaGreatDoor
open Go.RowKit Go.Shelf
set_option maxRecDepth 100000

set_option maxHeartbeats 400000 in
theorem names_any (p : ByteArray) (w : World) :
    Calls Tryz.prog 65 #[.string p] w fun e w' => e = .returned (.func (.func 84) #[] #[.pointer (some ⟨w.heap.size, 0, none⟩)]) ∧ w' = w.alloc (.cells #[.string p] 9) := by
  go_enter Tryz.func65, Tryz.ntmps65
  go_wp2
  go_ret
  exact ⟨rfl, rfl⟩

set_option maxHeartbeats 400000 in
theorem ups_any (p : ByteArray) (w : World) :
    Calls Tryz.prog 51 #[.string p] w fun e w' => e = .returned (.func (.func 69) #[] #[.pointer (some ⟨w.heap.size, 0, none⟩)]) ∧ w' = w.alloc (.cells #[.string p] 9) := by
  go_enter Tryz.func51, Tryz.ntmps51
  go_wp2
  go_ret
  exact ⟨rfl, rfl⟩

end Go.Proofs.YteoafohebgfjdaaGreatDoor
/-
  A step of a region that draws its order, where a condition on the world is carried along.
-/
namespace Go.Proofs.YteoafohebgfjdaaGreatDoor
open Go.RowKit
set_option maxRecDepth 100000

variable {P : Program} {ops : Array Oper} {Q : Exit → Act → World → Prop} {md : Region.Mode} {S : World → Prop}

theorem heldS_op {i : Nat} {o : Oper} {fuel : Nat} {listed : Array Bool} {a : Act} {w : World} (ho : ops[i]? = some o)
    (h : ∀ K : Act → World → Prop, (∀ a' w', S w' → wpAnyH P md ops Q S fuel (listed.setIfInBounds i true) a' w' → K a' w') → if Region.wanted o (yielded ops a.tmps) = true then Oper.wp P o a w K Q else K (a.put o.dst undef) w) :
    wpOp P ops Q i (fun a' w' => S w' ∧ wpAnyH P md ops Q S fuel (listed.setIfInBounds i true) a' w') a w := by
  have h1 := h (fun a' w' => S w' ∧ wpAnyH P md ops Q S fuel (listed.setIfInBounds i true) a' w') (fun _ _ q1 q2 => ⟨q1, q2⟩)
  unfold wpOp
  simp only [ho]
  split
  · rename_i hw
    rw [if_pos hw] at h1
    exact .inl h1
  · rename_i hw
    rw [if_neg hw] at h1
    exact h1
/-- One of them may come up. -/
theorem heldS_one {i : Nat} {o : Oper} {fuel : Nat} {listed : Array Bool} {a : Act} {w : World} (hr : Region.ready md ops listed = [i]) (ho : ops[i]? = some o)
    (h : ∀ K : Act → World → Prop, (∀ a' w', S w' → wpAnyH P md ops Q S fuel (listed.setIfInBounds i true) a' w' → K a' w') → if Region.wanted o (yielded ops a.tmps) = true then Oper.wp P o a w K Q else K (a.put o.dst undef) w) :
    wpAnyH P md ops Q S (fuel + 1) listed a w :=
  wpAnyH_all hr (by simp) (fun j hj => by
    obtain rfl : j = i := by simpa using hj
    exact heldS_op ho h)
theorem heldS_two {i k : Nat} {o u : Oper} {fuel : Nat} {listed : Array Bool} {a : Act} {w : World} (hr : Region.ready md ops listed = [i, k]) (ho : ops[i]? = some o) (hu : ops[k]? = some u)
    (h1 : ∀ K : Act → World → Prop, (∀ a' w', S w' → wpAnyH P md ops Q S fuel (listed.setIfInBounds i true) a' w' → K a' w') → if Region.wanted o (yielded ops a.tmps) = true then Oper.wp P o a w K Q else K (a.put o.dst undef) w)
    (h2 : ∀ K : Act → World → Prop, (∀ a' w', S w' → wpAnyH P md ops Q S fuel (listed.setIfInBounds k true) a' w' → K a' w') → if Region.wanted u (yielded ops a.tmps) = true then Oper.wp P u a w K Q else K (a.put u.dst undef) w) :
    wpAnyH P md ops Q S (fuel + 1) listed a w :=
  wpAnyH_all hr (by simp) (fun j hj => by
    rcases List.mem_cons.1 hj with rfl | hj
    · exact heldS_op ho h1
    · obtain rfl : j = k := by simpa using hj
      exact heldS_op hu h2)
theorem heldS_three {i j k : Nat} {o u x : Oper} {fuel : Nat} {listed : Array Bool} {a : Act} {w : World} (hr : Region.ready md ops listed = [i, j, k]) (ho : ops[i]? = some o) (hu : ops[j]? = some u) (hx : ops[k]? = some x)
    (h1 : ∀ K : Act → World → Prop, (∀ a' w', S w' → wpAnyH P md ops Q S fuel (listed.setIfInBounds i true) a' w' → K a' w') → if Region.wanted o (yielded ops a.tmps) = true then Oper.wp P o a w K Q else K (a.put o.dst undef) w)
    (h2 : ∀ K : Act → World → Prop, (∀ a' w', S w' → wpAnyH P md ops Q S fuel (listed.setIfInBounds j true) a' w' → K a' w') → if Region.wanted u (yielded ops a.tmps) = true then Oper.wp P u a w K Q else K (a.put u.dst undef) w)
    (h3 : ∀ K : Act → World → Prop, (∀ a' w', S w' → wpAnyH P md ops Q S fuel (listed.setIfInBounds k true) a' w' → K a' w') → if Region.wanted x (yielded ops a.tmps) = true then Oper.wp P x a w K Q else K (a.put x.dst undef) w) :
    wpAnyH P md ops Q S (fuel + 1) listed a w :=
  wpAnyH_all hr (by simp) (fun y hy => by
    rcases List.mem_cons.1 hy with rfl | hy
    · exact heldS_op ho h1
    · rcases List.mem_cons.1 hy with rfl | hy
      · exact heldS_op hu h2
      · obtain rfl : y = k := by simpa using hy
        exact heldS_op hx h3)
end Go.Proofs.YteoafohebgfjdaaGreatDoor
/-
  A region that draws its order, in a round of a range over a function, is walked as anywhere.
-/
namespace Go.Proofs.YteoafohebgfjdaaGreatDoor
open Go.RowKit
set_option maxRecDepth 100000

variable {P : Program} {ops : Array Oper} {Q : Exit → Act → World → Prop}

theorem upon_round (l n : Nat) (o : Oper) (a : Act) (K : Act → World → Prop) (r : Result Next) (h : o.upon P a K Q r) : o.uponIn (Fence.wide.inRound l) n P a K Q r := by
  unfold Oper.upon at h
  unfold Oper.uponIn
  split at h
  · exact h
  · exact h
  · exact h
  · refine ⟨fun q => (by cases q), (CallsIn.inRound l (callsIn_wide.2 h)).mono ?_⟩
    intro e w'' q
    cases e <;> exact q
  · rename_i row args w'
    refine ⟨fun q => (by cases q), fun c cs _ => ?_⟩
    obtain ⟨v, w'', q1, q2⟩ := h c cs
    exact ⟨v, w'', q1, stepsIn_wide.2 q2⟩
  · exact h
  · exact h.elim
theorem wp_round (l n : Nat) (o : Oper) (hd : ∀ c, o.op ≠ .defer c) (a : Act) (w : World) (K : Act → World → Prop) (h : o.wp P a w K Q) : o.wpIn (Fence.wide.inRound l) n P a w K Q := by
  refine ⟨fun _ _ => trivial, ?_⟩
  rw [Oper.semAt_plain _ _ _ hd]
  exact upon_round l n o a K _ h
theorem wpAny_round (l n : Nat) (md : Region.Mode) (hd : ∀ (i : Nat) (o : Oper), ops[i]? = some o → ∀ c, o.op ≠ .defer c) (hQ : ¬ LetsOut Q) : ∀ (fuel : Nat) (listed : Array Bool) (a : Act) (w : World), wpAny P md ops Q fuel listed a w → wpAnyIn (Fence.wide.inRound l) n P md ops Q fuel listed a w
  | 0, _, _, _, h => h
  | fuel + 1, listed, a, w, h => by
    refine ⟨h.1, fun i hi => ?_⟩
    have h2 := h.2 i hi
    unfold wpOp at h2
    unfold wpOpIn
    cases ho : ops[i]? with
    | none =>
      rw [ho] at h2
      exact wpAny_round l n md hd hQ fuel _ a w h2
    | some o =>
      rw [ho] at h2
      simp only at h2 ⊢
      split
      · rename_i hw
        rw [if_pos hw] at h2
        rcases h2 with h2 | h2
        · exact Oper.wpIn_mono (fun a' w' q => wpAny_round l n md hd hQ fuel _ a' w' q) (wp_round l n o (hd i o ho) a w _ h2)
        · exact absurd h2.2 hQ
      · rename_i hw
        rw [if_neg hw] at h2
        exact ⟨fun _ _ => trivial, wpAny_round l n md hd hQ fuel _ _ w h2⟩
/-- No operation defers. -/
def calmOps (ops : Array Oper) : Bool := ops.all fun o => match o.op with | .defer _ => false | _ => true
/-- The region, as anywhere. -/
theorem region_round (l n : Nat) {id : Nat} {a : Act} {w : World} (hm : P.follows .mixedOrders = true) (hd : calmOps ops = true) (hQ : ¬ LetsOut Q)
    (h : wpAny P .any ops Q ops.size (Array.replicate ops.size false) a w.drew) : (Code.region id ops true).wpIn (Fence.wide.inRound l) n P Q a w :=
  wpIn_region_any hm (wpAny_round l n .any (fun i o ho c e => by
    unfold calmOps at hd
    rw [Array.all_eq_true] at hd
    obtain ⟨hlt, rfl⟩ := Array.getElem?_eq_some_iff.1 ho
    have := hd i hlt
    rw [e] at this
    cases this) hQ _ _ _ _ h)
/-- append, at a step: by its run. -/
theorem step_append_run {o : Oper} {a : Act} {w : World} {K : Act → World → Prop} {E : Prop} (hgd : o.guard = none) (s x : Operand) (t : TypeId)
    (ho : o.op = .call { callee := .builtin .append, args := #[s, x], argTypes := #[t, t] }) (v y : Value) (hs : a.eval s = v) (hx : a.eval x = y) (r : Value) (w' : World)
    (hrun : (Builtin.append_ #[t, t] o.type #[v, y]).run P w = .ok r w') (h : K (a.put o.dst r) w') : if Region.wanted o (yielded ops a.tmps) = true then Oper.wp P o a w K Q else E := by
  have hw : Region.wanted o (yielded ops a.tmps) = true := by simp [Region.wanted, hgd]
  rw [if_pos hw]
  unfold Oper.wp execOp
  simp only [ho, resolve, invoke, builtin, Sem.run_bind, Sem.run_pure, Result.andThen_ok, List.map_toArray, List.map_cons, List.map_nil, hs, hx, hrun]
  exact h
end Go.Proofs.YteoafohebgfjdaaGreatDoor
