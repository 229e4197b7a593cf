/-
  paths.Names: the iterator's contract, over strings.SplitSeq's.
-/
import Derived.Test.YthmiffjhchhljaaDoorPathRight
namespace Go.Proofs.YthmiffjhchhljaaDoor
open Go.RowKit Go.Shelf
set_option maxRecDepth 100000

theorem roundIn_wide {n m k : Nat} {P : Program} {l : Nat} {f : FuncId} {tmps : Array Value} {assign body : Code} {w : World} {R : Ending → World → Prop}
    (h : RoundIn Fence.wide n P l f tmps assign body w R) : RoundIn (Fence.wide.inRound k) m P l f tmps assign body w R := ⟨trivial, fun c cs _ => h.2 c cs (room_wide _)⟩
theorem roundIn_any {n m : Nat} {P : Program} {l : Nat} {f : FuncId} {tmps : Array Value} {assign body : Code} {w : World} {R : Ending → World → Prop}
    (h : RoundIn Fence.wide n P l f tmps assign body w R) : RoundIn Fence.wide m P l f tmps assign body w R := ⟨trivial, fun c cs _ => h.2 c cs (room_wide _)⟩

theorem seqT_any {α : Type} {n m : Nat} {P : Program} {g : Nat} {lb : Array Value} {encs : α → Array Value} {L : List Nat} {S Sp : List α → Prop} {w : World}
    (h : SeqT Fence.wide n P g lb encs L S Sp w) : SeqT Fence.wide m P g lb encs L S Sp w := by
  intro l J Jx W hW hJ hJx hY h0
  refine callsIn_wide.2 (callsIn_wide.1 (h l J Jx W hW hJ hJx ?_ h0))
  intro X pre x W1 hX hX1 hj hl
  obtain ⟨fn, tmps, assign, body, hy, hR⟩ := hY X pre x W1 hX hX1 hj hl
  exact ⟨fn, tmps, assign, body, hy, roundIn_any hR⟩

/-- A path's names. -/
def namesL (p : List UInt8) : List (List UInt8) := if p.isEmpty || !rightL p then [] else splitL p

/-- What SplitSeq leaves: its three blocks. -/
theorem split_made (s : ByteArray) (w : World) (Q : Ending → World → Prop)
    (h : ∀ w1 : World, w1.heap.size = w.heap.size + 3 → Below w.heap.size w w1 → w1.heap[w.heap.size]? = some (.cells #[.string s] 9 (0, 0)) → w1.heap[w.heap.size + 1]? = some (.cells #[.string ⟨#[47]⟩] 9 (0, 0)) →
      w1.heap[w.heap.size + 2]? = some (.cells #[.int .i64 0] 3 (0, 0)) →
      Q (.returned (.func (.func 91) #[] #[.pointer (some ⟨w.heap.size + 1, 0, none⟩), .pointer (some ⟨w.heap.size, 0, none⟩), .pointer (some ⟨w.heap.size + 2, 0, none⟩)])) w1) :
    Calls Tryd.prog 58 #[.string s, .string ⟨#[47]⟩] w Q := by
  refine (splitSeq_any s w).mono ?_
  rintro e w1 ⟨rfl, hw1⟩
  refine h w1 (by rw [hw1]; simp) (by rw [hw1]; exact (((Below.refl _ w).alloc (Nat.le_refl _) _).alloc (by simp) _).alloc (by simp; omega) _) ?_ ?_ ?_
  · rw [hw1]
    rw [Below.heap_alloc _ _ _ (by simp <;> omega), Below.heap_alloc _ _ _ (by simp <;> omega)]
    exact World.alloc_heap_new _ _
  · rw [hw1]
    rw [Below.heap_alloc _ _ _ (by simp <;> omega)]
    have h := World.alloc_heap_new (w.alloc (.cells #[.string s] 9)) (Obj.cells #[.string ⟨#[47]⟩] 9)
    simp only [World.size_alloc] at h
    exact h
  · rw [hw1]
    have h := World.alloc_heap_new ((w.alloc (.cells #[.string s] 9)).alloc (.cells #[.string ⟨#[47]⟩] 9)) (Obj.cells #[.int .i64 0] 3)
    simp only [World.size_alloc] at h
    exact h

attribute [local go_sem] Oper.semAt_some
set_option maxRecDepth 100000 in
set_option maxHeartbeats 2000000 in
theorem names_seq (n : Nat) (b : Nat) (p : ByteArray) (w : World) (hp : (p.size : Int) ≤ 9223372036854775800) (hb : b < w.heap.size) (c : w.heap[b]? = some (.cells #[.string p] 9 (0, 0))) :
    SeqT Fence.wide n Tryd.prog 76 #[.pointer (some ⟨b, 0, none⟩)] (fun x : ByteArray => #[.string x]) []
      (fun xs => xs.map toL = namesL (toL p)) (fun pre => pre.map toL <+: namesL (toL p)) w := by
  refine seqT_any (n := 5) ?_
  obtain ⟨T, hT⟩ : ∃ T, T = namesL (toL p) := ⟨_, rfl⟩
  rw [← hT]
  have HT := hide hT
  clear hT
  intro l J Jx W hW hJ hJx hY h0
  have k1 : W.heap[b]? = some (.cells #[.string p] 9 (0, 0)) := (hW.block _ hb).trans c
  have hbW : b < W.heap.size := Nat.lt_of_lt_of_le hb hW.size
  clear c hW hb
  have d1 : W.cell? ⟨b, 0, none⟩ = some (.string p) := cell_of_row _ _ _ _ _ _ k1
  have dA : ∀ o : Obj, (W.alloc o).cell? ⟨b, 0, none⟩ = some (.string p) := fun o => cell_of_row _ _ _ _ _ _ ((Below.heap_alloc _ _ _ hbW).trans k1)
  refine callsIn_of_wp_marks Tryd.func76 rfl trivial ?_ rfl
  simp only [Tryd.ntmps76, List.size_toArray, List.length_cons, List.length_nil, Nat.reduceAdd, Nat.reduceSub, Array.replicate_succ, Array.replicate_zero, List.push_toArray, List.append_toArray, List.nil_append, List.cons_append]
  cases hne : p.toList.isEmpty with
  | true =>
    have hN : T = [] := by rw [HT.out]; unfold namesL toL; rw [← Lib.toList_data, hne]; rfl
    have hE : (∃ X, W.heap.size ≤ X ∧ ((∃ xs : List ByteArray, xs.map toL = T ∧ J X xs (W.alloc (.cells #[.func (.yield l) #[] #[]] 31 (0, 0)))) ∨ (∃ pre : List ByteArray, pre.map toL <+: T ∧ Jx X pre (W.alloc (.cells #[.func (.yield l) #[] #[]] 31 (0, 0)))))) :=
      ⟨W.heap.size, Nat.le_refl _, .inl ⟨[], by rw [hN]; rfl, hJ _ (Nat.le_refl _) _ _ _ none (h0 _ (Nat.le_refl _)) (World.grownBy_alloc _ _ none) (fun r e => by cases e)⟩⟩
    have HE := hide hE
    clear hE hN hJ hJx hY h0
    gi_wp2_with fail
    refine ⟨trivial, ?_⟩
    gi_wp2_with fail
    refine ⟨_, results_none rfl _ _ _, ⟨_, rfl⟩, HE.out⟩
  | false =>
    gi_wp2_with fail
    refine ⟨trivial, (callsIn_wide.2 (right_any p _ hp)).mono ?_⟩
    rintro e w1 ⟨rfl, hB1⟩
    have k2 : w1.heap[b]? = some (.cells #[.string p] 9 (0, 0)) := (hB1.block _ (by simp; omega)).trans ((Below.heap_alloc _ _ _ hbW).trans k1)
    have kY : w1.heap[W.heap.size]? = some (.cells #[.func (.yield l) #[] #[]] 31 (0, 0)) := (hB1.block _ (by simp)).trans (World.alloc_heap_new _ _)
    have d2 : w1.cell? ⟨b, 0, none⟩ = some (.string p) := cell_of_row _ _ _ _ _ _ k2
    cases hr : rightL p.data.toList with
    | false =>
      have hN : T = [] := by rw [HT.out]; unfold namesL; rw [show rightL (toL p) = false from hr]; simp
      have hE : (∃ X, W.heap.size ≤ X ∧ ((∃ xs : List ByteArray, xs.map toL = T ∧ J X xs w1) ∨ (∃ pre : List ByteArray, pre.map toL <+: T ∧ Jx X pre w1))) :=
        ⟨W.heap.size, Nat.le_refl _, .inl ⟨[], by rw [hN]; rfl, hJ _ (Nat.le_refl _) _ _ _ none (hJ _ (Nat.le_refl _) _ _ _ none (h0 _ (Nat.le_refl _)) (World.grownBy_alloc _ _ none) (fun r e => by cases e)) (grownBy_below hB1) (fun r e => by cases e)⟩⟩
      have HE := hide hE
      clear hE hN hJ hJx hY h0
      gi_wp2_with fail
      refine ⟨_, results_none rfl _ _ _, ⟨_, rfl⟩, HE.out⟩
    | true =>
      have hN : T = splitL (toL p) := by rw [HT.out]; unfold namesL; rw [show rightL (toL p) = true from hr, show (toL p).isEmpty = false by unfold toL; rw [← Lib.toList_data]; exact hne]; rfl
      have HN := hide hN
      have j1 : ∀ X, W.heap.size ≤ X → J X [] w1 := fun X hX => hJ _ hX _ _ _ none (hJ _ hX _ _ _ none (h0 _ hX) (World.grownBy_alloc _ _ none) (fun r e => by cases e)) (grownBy_below hB1) (fun r e => by cases e)
      have hz1 : W.heap.size + 1 ≤ w1.heap.size := by have := hB1.size; simp at this; omega
      clear hN h0 hB1 k1 d1 dA
      gi_wp2_with fail
      refine ⟨trivial, (callsIn_wide.2 (split_made p _ _ ?_)).mono (fun e w' h => h)⟩
      intro w2 hz2 hB2 r2 r3 r4
      have kY2 := (hB2.block _ (by omega)).trans kY
      have j2 : ∀ X, W.heap.size ≤ X → J X [] w2 := fun X hX => hJ _ hX _ _ _ none (j1 X hX) (grownBy_below hB2) (fun r e => by cases e)
      clear hB2 kY j1 k2 d2
      gi_wp2_with fail
      have sub : ∀ X r, w2.heap.size ≤ X → Its [w1.heap.size, w1.heap.size + 1, w1.heap.size + 2] w2.heap.size X r → Its [] W.heap.size X r := fun X r hX h => by
        rcases h with h | h
        · simp at h; exact .inr ⟨by omega, by omega⟩
        · exact .inr ⟨by omega, h.2⟩
      refine wpIn_rangeT (α := ByteArray) rfl (by omega) (gf := 91) (lb := #[.pointer (some ⟨w1.heap.size + 1, 0, none⟩), .pointer (some ⟨w1.heap.size, 0, none⟩), .pointer (some ⟨w1.heap.size + 2, 0, none⟩)]) rfl trivial
        (enters_of Tryd.func91 (by kernel_rfl) rfl) (L := [w1.heap.size, w1.heap.size + 1, w1.heap.size + 2]) (by intro k hk; simp at hk; omega)
        (split_seq 4 w1.heap.size (w1.heap.size + 1) (w1.heap.size + 2) p w2 hp (by omega) (by omega) (by omega) (by omega) (by omega) r2 r3 r4) (fun _ => rfl)
        (fun X pre WW => J X pre WW ∧ WW.heap[W.heap.size]? = some (.cells #[.func (.yield l) #[] #[]] 31 (0, 0)))
        (fun X c pre WW => c = .ret ∧ Jx X pre WW)
        ?hI ?hIx (fun X hX => ⟨j2 X (by omega), kY2⟩)
        (fun x => { tmps := #[.func (.yield l) #[] #[], .pointer (some ⟨b, 0, none⟩), .pointer (some ⟨W.heap.size, 0, none⟩), .string x, .string p, .bool false, .bool false, .string p, .bool true, .bool false, .bool false, .string p,
          .func (.func 91) #[] #[.pointer (some ⟨w1.heap.size + 1, 0, none⟩), .pointer (some ⟨w1.heap.size, 0, none⟩), .pointer (some ⟨w1.heap.size + 2, 0, none⟩)], .string x, undef, undef, undef, undef], defers := [] }) ?assign ?body ?done ?stop
      case hI =>
        rintro X hX pre A B row ⟨h1, h2⟩ hg hr
        refine ⟨hJ X (by omega) _ _ _ _ h1 hg (fun r e => sub X r (by omega) (hr r e)), (hg.block _ (Array.getElem?_eq_some_iff.1 h2).1 (fun e => ?_)).trans h2⟩
        rcases hr _ e.symm with h | h
        · simp at h; omega
        · omega
      case hIx =>
        rintro X c hX pre A B row ⟨h1, h2⟩ hg hr
        exact ⟨h1, hJx X (by omega) _ _ _ _ h2 hg (fun r e => sub X r (by omega) (hr r e))⟩
      case assign =>
        intro ll x WW K hK
        gi_wp2
        exact hK
      case body =>
        rintro X ll pre x WW hX hXW ⟨h1, h2⟩ hlen
        have f2 : WW.cell? ⟨W.heap.size, 0, none⟩ = some (.func (.yield l) #[] #[]) := cell_of_row _ _ _ _ _ _ h2
        obtain ⟨fn, tmps, assign, body, hy, hR⟩ := hY X pre x WW (by omega) hXW h1 (show _ <+: _ by rw [HN.out]; exact hlen)
        have HR := hide hR
        clear hR hY
        gi_wp2_with fail
        refine (roundIn_wide HR.out).mono ?_
        rintro e W' (⟨rfl, hJ', hk⟩ | ⟨rfl, hJ', hk⟩)
        · gi_wp2_with fail
          exact ⟨hk.sub (fun r => sub X r (by omega)), hJ', (hk.2 _ (.inr ⟨Nat.le_refl _, by omega⟩)).trans h2⟩
        · gi_wp2_with fail
          exact ⟨hk.sub (fun r => sub X r (by omega)), rfl, hJ'⟩
      case done =>
        rintro X D xs WW hX hD hDX hS ⟨h1, h2⟩ hK
        have hj := hJ X (by omega) _ _ _ _ h1 (grownBy_putObj' _ D (.deferred none)) (fun r e => by cases e; exact .inr ⟨by omega, hDX⟩)
        clear hJ hJx hY h1
        gi_wp2_with fail
        refine ⟨by simp, .inl ⟨_, _, rfl, run_takeDeferred hK, ?_⟩⟩
        exact ⟨_, results_none rfl _ _ _, ⟨_, rfl⟩, X, by omega, .inl ⟨xs, by rw [HN.out]; exact hS, hj⟩⟩
      case stop =>
        rintro X D c pre WW hX hD hDX hS ⟨rfl, h2⟩ hK
        have hj := hJx X (by omega) _ _ _ _ h2 (grownBy_putObj' _ D (.deferred none)) (fun r e => by cases e; exact .inr ⟨by omega, hDX⟩)
        clear hJ hJx hY h2
        gi_wp2_with fail
        refine ⟨by simp, .inl ⟨_, _, rfl, run_takeDeferred hK, ?_⟩⟩
        exact ⟨_, results_none rfl _ _ _, ⟨_, rfl⟩, X, by omega, .inr ⟨pre, by rw [HN.out]; exact hS, hj⟩⟩
end Go.Proofs.YthmiffjhchhljaaDoor
