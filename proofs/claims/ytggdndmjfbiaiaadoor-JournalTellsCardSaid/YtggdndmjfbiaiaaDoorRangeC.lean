/-
  A range over a function, as RangeK's, whose loop variable lies in a block that each round makes anew.
-/
import Derived.Test.YtggdndmjfbiaiaaDoorRangeK
namespace Go.Proofs.YtggdndmjfbiaiaaDoor
open Go.RowKit
set_option maxRecDepth 100000

variable {F : Fence} {n : Nat} {P : Program}

theorem wpIn_rangeC {α : Type} {g : Operand} {ps : Array Tmp} {assign body : Code} {Q : Exit → Act → World → Prop} {a : Act} {w : World}
    (hro : F.round = none) (h1 : 1 ≤ n) {gf : Nat} {lb : Array Value} (hg : a.eval g = .func (.func gf) #[] lb) (hFg : F.fn gf) (eg : ∀ args w, (callFunc gf args).run P w = .ok (.enter gf args) w)
    {encs : α → Array Value} {L K : List Nat} {S Sp : List α → Prop} (hL : ∀ k, k ∈ L → k < w.heap.size) (hKs : ∀ k, k ∈ K → k < w.heap.size) (hseq : SeqK F (n - 1) P gf lb encs L K S Sp w) (hps : ∀ x, (encs x).size = ps.size)
    (I : Nat → List α → World → Prop) (Ix : Nat → Code → List α → World → Prop)
    (hI : ∀ X, w.heap.size + 2 ≤ X → Bears (Its L w.heap.size X) (I X)) (hIx : ∀ X c, w.heap.size + 2 ≤ X → Bears (Its L w.heap.size X) (Ix X c))
    (h0 : ∀ X, w.heap.size + 2 ≤ X → I X [] w) (ob : α → Obj) (a₁ : α → Nat → Act)
    (hassign : ∀ (l : Nat) (x : α) (W : World) (KK : Act → World → Prop), KK (a₁ x W.heap.size) (W.alloc (ob x)) →
      assign.wpIn (F.inRound l) (n - 1 - 1) P (Exit.then KK (fun _ _ _ => False)) { tmps := (ps.zip (encs x)).foldl (fun t (p, v) => t.setIfInBounds p v) a.tmps, defers := [] } W)
    (hbody : ∀ (X l : Nat) (pre : List α) (x : α) (g : Nat) (W : World), w.heap.size + 2 ≤ X → X ≤ g → g < W.heap.size → W.heap[g]? = some (ob x) → I X pre W → Sp (pre ++ [x]) →
      body.wpIn (F.inRound l) (n - 1 - 1) P (postT (ItsK L K w.heap.size X) (I X) (Ix X) (pre ++ [x]) W) (a₁ x g) W)
    (hdone : ∀ (X D : Nat) (xs : List α) (W : World), w.heap.size + 2 ≤ X → w.heap.size ≤ D → D < X → S xs → I X xs W → W.heap[D]? = some (.deferred (some [])) →
      Q .normal { a with defers := { target := .collected D, args := #[] } :: a.defers } W)
    (hstop : ∀ (X D : Nat) (c : Code) (pre : List α) (W : World), w.heap.size + 2 ≤ X → w.heap.size ≤ D → D < X → Sp pre → Ix X c pre W → W.heap[D]? = some (.deferred (some [])) →
      c.wpIn F n P Q { a with defers := { target := .collected D, args := #[] } :: a.defers } W) :
    (Code.rangeFunc g ps assign body).wpIn F n P Q a w := by
  refine wpIn_rangeFunc ?_
  intro fn hfn
  rw [hro]
  -- the record, and the world in which the iterator is called
  let rec_ : LoopState → Option Code → Loop := fun st pe => { state := st, pending := pe, fn, tmps := a.tmps, params := ps, assign, body, defers := w.heap.size }
  have hB : Below w.heap.size w ((w.alloc (.deferred (some []))).alloc (.loop (rec_ .ready none))) := ((Below.refl _ w).alloc (Nat.le_refl _) _).alloc (by simp) _
  have hsz : ((w.alloc (.deferred (some []))).alloc (.loop (rec_ .ready none))).heap.size = w.heap.size + 2 := by simp
  have hl1 : ((w.alloc (.deferred (some []))).alloc (.loop (rec_ .ready none))).heap[w.heap.size + 1]? = some (.loop (rec_ .ready none)) := heap_alloc2_new _ _ _
  have hd1 : ((w.alloc (.deferred (some []))).alloc (.loop (rec_ .ready none))).heap[w.heap.size]? = some (.deferred (some [])) := heap_alloc2_old _ _ _
  have hI1 : ∀ X, w.heap.size + 2 ≤ X → I X [] ((w.alloc (.deferred (some []))).alloc (.loop (rec_ .ready none))) := fun X hX =>
    hI X hX _ _ _ none (hI X hX _ _ _ none (h0 X hX) (World.grownBy_alloc _ _ none) (fun r e => by cases e)) (World.grownBy_alloc _ _ none) (fun r e => by cases e)
  obtain ⟨W0, hW0⟩ : ∃ W0, W0 = (w.alloc (.deferred (some []))).alloc (.loop (rec_ .ready none)) := ⟨_, rfl⟩
  have hent : (Instr.enterLoop fn a.tmps ps assign body none).run P w = .ok (w.heap.size + 1, [{ target := .collected w.heap.size, args := #[] }]) W0 := by rw [hW0]; exact run_enterLoop_outer _ _ _ _ _
  rw [← hW0] at hB hsz hl1 hd1 hI1
  clear hW0
  refine ⟨w.heap.size + 1, [{ target := .collected w.heap.size, args := #[] }], W0, { target := .fn (.func gf) lb, args := #[.func (.yield (w.heap.size + 1)) #[] #[]] }, W0, gf,
    #[.func (.yield (w.heap.size + 1)) #[] #[]] ++ lb, W0, hent, ?_, ?_, ?_, fun _ => h1, ?_⟩
  · simp only [resolve, hg]
    simp [go_sem]
  · intro f' hf'; simp [Target.leads] at hf'; subst hf'; exact hFg
  · simp [invoke, go_sem, eg]
  -- the iterator's contract, with the record and the block of deferred calls beside the caller's invariant
  have hnl : ∀ X, ¬ Its L (w.heap.size + 2) X (w.heap.size + 1) := fun X h => by
    rcases h with h | h
    · have := hL _ h; omega
    · omega
  have hnd : ∀ X, ¬ Its L (w.heap.size + 2) X w.heap.size := fun X h => by
    rcases h with h | h
    · have := hL _ h; omega
    · omega
  have hnlK : ∀ X, ¬ ItsK L K (w.heap.size + 2) X (w.heap.size + 1) := fun X h => by
    rcases h with h | h
    · exact hnl X h
    · have := hKs _ h; omega
  have hsubK : ∀ X k, ItsK L K (w.heap.size + 2) X k → ItsK L K w.heap.size X k := fun X k h => by
    rcases h with h | h
    · rcases h with h | h
      · exact .inl (.inl h)
      · exact .inl (.inr ⟨by omega, h.2⟩)
    · exact .inr h
  have hsub : ∀ X k, Its L (w.heap.size + 2) X k → Its L w.heap.size X k := fun X k h => by
    rcases h with h | h
    · exact .inl h
    · exact .inr ⟨by omega, h.2⟩
  have keep : ∀ {A B : World} {row : Option Nat} {X k : Nat} {o : Obj}, A.grownBy B row → (∀ r, row = some r → Its L (w.heap.size + 2) X r) → ¬ Its L (w.heap.size + 2) X k → A.heap[k]? = some o → B.heap[k]? = some o :=
    fun {A B row X k o} hg' hr hk ho => (hg'.block k (Array.getElem?_eq_some_iff.1 ho).1 (fun e => hk (hr k e.symm))).trans ho
  have own1 : ∀ X, w.heap.size + 2 ≤ X → Its L w.heap.size X (w.heap.size + 1) := fun X hX => .inr ⟨by omega, by omega⟩
  have own0 : ∀ X, w.heap.size + 2 ≤ X → Its L w.heap.size X w.heap.size := fun X hX => .inr ⟨by omega, by omega⟩
  rw [← hsz] at hnl hnd hsub keep hnlK hsubK
  refine (hseq (w.heap.size + 1)
    (fun X pre W => I X pre W ∧ W.heap[w.heap.size + 1]? = some (.loop (rec_ .ready none)) ∧ W.heap[w.heap.size]? = some (.deferred (some [])))
    (fun X pre W => ∃ c, Ix X c pre W ∧ W.heap[w.heap.size + 1]? = some (.loop (rec_ .done (some c))) ∧ W.heap[w.heap.size]? = some (.deferred (some []))) W0 hB
    (fun X hX s A B row hs hg' hr => ⟨hI X (by omega) s A B row hs.1 hg' (fun r e => hsub X r (hr r e)), keep hg' hr (hnl X) hs.2.1, keep hg' hr (hnd X) hs.2.2⟩)
    (fun X hX s A B row hs hg' hr => by
      obtain ⟨c, hc, hl, hk⟩ := hs
      exact ⟨c, hIx X c (by omega) s A B row hc hg' (fun r e => hsub X r (hr r e)), keep hg' hr (hnl X) hl, keep hg' hr (hnd X) hk⟩)
    ?_ (fun X hX => ⟨hI1 X (by omega), hl1, hd1⟩)).mono ?_
  · -- one round
    rintro X pre x W0' hX hXW0 ⟨hi0, hl0, hk0⟩ hlen
    have hX2 : w.heap.size + 2 ≤ X := by omega
    have hlt0 : w.heap.size + 1 < W0'.heap.size := (Array.getElem?_eq_some_iff.1 hl0).1
    have hi : I X pre (W0'.alloc (ob x)) := hI X hX2 _ _ _ none hi0 (World.grownBy_alloc _ _ none) (fun r e => by cases e)
    have hl : (W0'.alloc (ob x)).heap[w.heap.size + 1]? = some (.loop (rec_ .ready none)) := (Below.heap_alloc _ _ _ hlt0).trans hl0
    have hk : (W0'.alloc (ob x)).heap[w.heap.size]? = some (.deferred (some [])) := (Below.heap_alloc _ _ _ (by omega)).trans hk0
    have hnew : (W0'.alloc (ob x)).heap[W0'.heap.size]? = some (ob x) := World.alloc_heap_new _ _
    have hXW : X ≤ (W0'.alloc (ob x)).heap.size := by simp; omega
    have hlie0 : Lies (ItsK L K W0.heap.size X) W0' (W0'.alloc (ob x)) := ⟨by simp, fun k hk' => Below.heap_alloc _ _ _ (by
      rcases hk' with hk' | hk'
      · rcases hk' with hk' | hk'
        · have := hL _ hk'; omega
        · omega
      · have := hKs _ hk'; omega)⟩
    refine ⟨fn, _, assign, body, run_yield (P := P) (args := encs x) hl0 (hps x), roundIn_of_wpIn hfn (hassign _ x W0' _ ⟨_, run_beginRound hl rfl, ?_⟩)⟩
    obtain ⟨W, hW⟩ : ∃ W, W = W0'.alloc (ob x) := ⟨_, rfl⟩
    have hgW : W0'.heap.size < W.heap.size := by rw [hW]; simp
    rw [← hW] at hi hl hk hnew hXW hlie0 ⊢
    clear hW
    have hlt : w.heap.size + 1 < W.heap.size := by omega
    have hg2 := grownBy_putObj' W (w.heap.size + 1) (.loop { rec_ .ready none with state := .busy })
    have hl2 : (W.putObj (w.heap.size + 1) (.loop { rec_ .ready none with state := .busy })).heap[w.heap.size + 1]? = some (.loop { rec_ .ready none with state := .busy }) := World.putObj_heap_same hlt
    have hk2 : (W.putObj (w.heap.size + 1) (.loop { rec_ .ready none with state := .busy })).heap[w.heap.size]? = some (.deferred (some [])) := (World.putObj_heap_other (by omega)).trans hk
    have hi2 : I X pre (W.putObj (w.heap.size + 1) (.loop { rec_ .ready none with state := .busy })) := hI X hX2 _ _ _ _ hi hg2 (fun r e => by cases e; exact own1 X hX2)
    have hs2 : X ≤ (W.putObj (w.heap.size + 1) (.loop { rec_ .ready none with state := .busy })).heap.size := Nat.le_trans hXW hg2.size
    have lie2 : Lies (ItsK L K W0.heap.size X) W (W.putObj (w.heap.size + 1) (.loop { rec_ .ready none with state := .busy })) :=
      ⟨hg2.size, fun k hk' => World.putObj_heap_other (fun e => hnlK X (e ▸ hk'))⟩
    have hnew2 : (W.putObj (w.heap.size + 1) (.loop { rec_ .ready none with state := .busy })).heap[W0'.heap.size]? = some (ob x) := (World.putObj_heap_other (by omega)).trans hnew
    refine wpIn_mono (hbody X _ pre x W0'.heap.size _ hX2 hXW0 (Nat.lt_of_lt_of_le hgW hg2.size) hnew2 hi2 hlen) ?_
    have fin : ∀ (jump : Option Code) (W3 : World), Lies (ItsK L K w.heap.size X) (W.putObj (w.heap.size + 1) (.loop { rec_ .ready none with state := .busy })) W3 →
        (Instr.endRound (w.heap.size + 1) jump).run P W3 = .ok (.bool jump.isNone) (W3.putObj (w.heap.size + 1) (.loop (rec_ (if jump.isNone then .ready else .done) jump))) ∧
        (W3.putObj (w.heap.size + 1) (.loop (rec_ (if jump.isNone then .ready else .done) jump))).heap[w.heap.size + 1]? = some (.loop (rec_ (if jump.isNone then .ready else .done) jump)) ∧
        (W3.putObj (w.heap.size + 1) (.loop (rec_ (if jump.isNone then .ready else .done) jump))).heap[w.heap.size]? = some (.deferred (some [])) := fun jump W3 hk3 => by
      have hl3 := (hk3.2 _ (.inl (own1 X hX2))).trans hl2
      exact ⟨run_endRound (P := P) jump hl3, World.putObj_heap_same (Array.getElem?_eq_some_iff.1 hl3).1, (World.putObj_heap_other (by omega)).trans ((hk3.2 _ (.inl (own0 X hX2))).trans hk2)⟩
    have turn : ∀ (W3 : World) (o : Obj) (r : Nat), some (w.heap.size + 1) = some r → Its L w.heap.size X r := fun W3 o r e => by cases e; exact own1 X hX2
    have lie4 : ∀ (W3 : World) (o : Obj), Lies (ItsK L K w.heap.size X) (W.putObj (w.heap.size + 1) (.loop { rec_ .ready none with state := .busy })) W3 → Lies (ItsK L K W0.heap.size X) W (W3.putObj (w.heap.size + 1) o) := fun W3 o hk3 =>
      (lie2.trans (hk3.sub (hsubK X))).trans ⟨(grownBy_putObj' W3 _ _).size, fun k hk' => World.putObj_heap_other (fun e => hnlK X (e ▸ hk'))⟩
    rintro e a3 W3 hp
    cases e with
    | normal =>
      obtain ⟨hk3, hi3⟩ := hp
      obtain ⟨hr, hl4, hk4⟩ := fin none W3 hk3
      refine ⟨_, _, hr, .inl ⟨rfl, ⟨hI X hX2 _ _ _ _ hi3 (grownBy_putObj' W3 _ _) (turn W3 (.deferred none)), hl4, hk4⟩, ?_⟩⟩
      exact hlie0.trans (lie4 W3 _ hk3)
    | ret =>
      obtain ⟨hk3, hi3⟩ := hp
      obtain ⟨hr, hl4, hk4⟩ := fin (some .ret) W3 hk3
      exact ⟨_, _, hr, .inr ⟨rfl, ⟨.ret, hIx X _ hX2 _ _ _ _ hi3 (grownBy_putObj' W3 _ _) (turn W3 (.deferred none)), hl4, hk4⟩, hlie0.trans (lie4 W3 _ hk3)⟩⟩
    | exit id =>
      obtain ⟨hk3, hi3⟩ := hp
      obtain ⟨hr, hl4, hk4⟩ := fin (some (.exit id)) W3 hk3
      exact ⟨_, _, hr, .inr ⟨rfl, ⟨.exit id, hIx X _ hX2 _ _ _ _ hi3 (grownBy_putObj' W3 _ _) (turn W3 (.deferred none)), hl4, hk4⟩, hlie0.trans (lie4 W3 _ hk3)⟩⟩
    | goto t =>
      obtain ⟨hk3, hi3⟩ := hp
      obtain ⟨hr, hl4, hk4⟩ := fin (some (.goto t)) W3 hk3
      exact ⟨_, _, hr, .inr ⟨rfl, ⟨.goto t, hIx X _ hX2 _ _ _ _ hi3 (grownBy_putObj' W3 _ _) (turn W3 (.deferred none)), hl4, hk4⟩, hlie0.trans (lie4 W3 _ hk3)⟩⟩
    | panic ch => exact hp.elim
    | outgrown => exact hp.elim
  · -- behind the iterator
    rintro e W2 ⟨⟨v, rfl⟩, X, hX, hcase⟩
    have hX2 : w.heap.size + 2 ≤ X := by omega
    have turn : ∀ (r : Nat), some (w.heap.size + 1) = some r → Its L w.heap.size X r := fun r e => by cases e; exact own1 X hX2
    rcases hcase with ⟨xs, hS, hi, hl, hk⟩ | ⟨pre, hSp, c, hi, hl, hk⟩
    · exact ⟨none, _, run_endLoop (P := P) hl (by simp [rec_]), hdone X _ xs _ hX2 (Nat.le_refl _) (by omega) hS (hI X hX2 _ _ _ _ hi (grownBy_putObj' W2 _ _) turn) ((World.putObj_heap_other (by omega)).trans hk)⟩
    · exact ⟨some c, _, run_endLoop (P := P) hl (by simp [rec_]), hstop X _ c pre _ hX2 (Nat.le_refl _) (by omega) hSp (hIx X c hX2 _ _ _ _ hi (grownBy_putObj' W2 _ _) turn) ((World.putObj_heap_other (by omega)).trans hk)⟩
end Go.Proofs.YtggdndmjfbiaiaaDoor
