/-
  Texts that belong together: Range, PathSplit, PathName.
-/
import Derived.Test.YteoafohebgfjdaaGreatDoorAutoBytes
import Derived.RangeFuncNested
import Derived.RangeFuncBound
import Derived.RangeFuncCalls
import Derived.RangeFuncLeaves
import Derived.WalkKit
import Derived.Test.YteoafohebgfjdaaGreatDoorAutoNodesOwn
import Derived.OwnWalkIn
import Derived.TacticsInMore
import Derived.LoopNIn
import Derived.LoopIn
import Derived.Shelf.Abstract
import Derived.Shelf.RegionOpen
/-
  A range over a function whose iterator keeps state in blocks of its own: cells that it has captured (the list L), and blocks that it makes while it runs (from the heap's size at its call up to a number X that it names
  once, ahead of its first round). What the iterator may turn, each round leaves as it was; what the caller's invariant speaks of, the iterator leaves. No difference is made between cells and other blocks.
-/
namespace Go.Proofs.YteoafohebgfjdaaGreatDoor
open Go.RowKit
set_option maxRecDepth 100000

/-- The iterator's own blocks. -/
def Its (L : List Nat) (b X k : Nat) : Prop := k ∈ L ∨ (b ≤ k ∧ k < X)
/-- These blocks lie as they lay; no block has gone. -/
def Lies (U : Nat → Prop) (A B : World) : Prop := A.heap.size ≤ B.heap.size ∧ ∀ k, U k → B.heap[k]? = A.heap[k]?
/-- A step that turns one of these blocks at most, and makes new ones, is borne. -/
def Bears {β : Type} (U : Nat → Prop) (J : β → World → Prop) : Prop := ∀ s A B row, J s A → A.grownBy B row → (∀ r, row = some r → U r) → J s B

theorem Lies.refl (U : Nat → Prop) (A : World) : Lies U A A := ⟨Nat.le_refl _, fun _ _ => rfl⟩
theorem Lies.trans {U : Nat → Prop} {A B C : World} (h : Lies U A B) (k : Lies U B C) : Lies U A C := ⟨Nat.le_trans h.1 k.1, fun i hi => (k.2 i hi).trans (h.2 i hi)⟩
theorem Lies.sub {U V : Nat → Prop} {A B : World} (h : Lies U A B) (hs : ∀ k, V k → U k) : Lies V A B := ⟨h.1, fun k hk => h.2 k (hs k hk)⟩
theorem Lies.grown {U : Nat → Prop} {A B : World} {row : Option Nat} (hg : A.grownBy B row) (hlt : ∀ k, U k → k < A.heap.size) (hr : ∀ r, row = some r → ¬ U r) : Lies U A B :=
  ⟨hg.size, fun k hk => hg.block k (hlt k hk) (fun e => hr k e.symm hk)⟩
theorem Bears.sub {β : Type} {U V : Nat → Prop} {J : β → World → Prop} (h : Bears U J) (hs : ∀ k, V k → U k) : Bears V J := fun s A B row hj hg hr => h s A B row hj hg (fun r e => hs r (hr r e))
theorem grownBy_setCell (A : World) (p : Addr) (u : Value) : A.grownBy (A.setCell p u) (some p.block) :=
  ⟨rfl, rfl, rfl, by simp [World.setCell], fun k _ hk => Below.heap_setCell A p u k (fun e => hk (by rw [e]))⟩

def SeqT {α : Type} (F : Fence) (n : Nat) (P : Program) (g : Nat) (lb : Array Value) (encs : α → Array Value) (L : List Nat) (S Sp : List α → Prop) (w : World) : Prop :=
  ∀ (l : Nat) (J Jx : Nat → List α → World → Prop) (W : World), Below w.heap.size w W →
    (∀ X, W.heap.size ≤ X → Bears (Its L W.heap.size X) (J X)) → (∀ X, W.heap.size ≤ X → Bears (Its L W.heap.size X) (Jx X)) →
    (∀ X pre x W1, W.heap.size ≤ X → X ≤ W1.heap.size → J X pre W1 → Sp (pre ++ [x]) → YieldAt F (n - 1) P l (encs x) W1 fun e W' =>
      (e = .returned (.bool true) ∧ J X (pre ++ [x]) W' ∧ Lies (Its L W.heap.size X) W1 W') ∨ (e = .returned (.bool false) ∧ Jx X (pre ++ [x]) W' ∧ Lies (Its L W.heap.size X) W1 W')) →
    (∀ X, W.heap.size ≤ X → J X [] W) →
    CallsIn F n P g (#[.func (.yield l) #[] #[]] ++ lb) W fun e W' => (∃ v, e = .returned v) ∧ ∃ X, W.heap.size ≤ X ∧ ((∃ xs, S xs ∧ J X xs W') ∨ (∃ pre, Sp pre ∧ Jx X pre W'))

/-- How the body of a round may be left. -/
def postT {α : Type} (U : Nat → Prop) (I : List α → World → Prop) (Ix : Code → List α → World → Prop) (xs : List α) (W : World) : Exit → Act → World → Prop
  | .normal, _, W' => Lies U W W' ∧ I xs W'
  | .ret, _, W' => Lies U W W' ∧ Ix .ret xs W'
  | .exit id, _, W' => Lies U W W' ∧ Ix (.exit id) xs W'
  | .goto t, _, W' => Lies U W W' ∧ Ix (.goto t) xs W'
  | .panic _, _, _ => False
  | .outgrown, _, _ => False

variable {F : Fence} {n : Nat} {P : Program}

theorem wpIn_rangeT {α : Type} {g : Operand} {ps : Array Tmp} {assign body : Code} {Q : Exit → Act → World → Prop} {a : Act} {w : World}
    (hro : F.round = none) (h1 : 1 ≤ n) {gf : Nat} {lb : Array Value} (hg : a.eval g = .func (.func gf) #[] lb) (hFg : F.fn gf) (eg : ∀ args w, (callFunc gf args).run P w = .ok (.enter gf args) w)
    {encs : α → Array Value} {L : List Nat} {S Sp : List α → Prop} (hL : ∀ k, k ∈ L → k < w.heap.size) (hseq : SeqT F (n - 1) P gf lb encs L S Sp w) (hps : ∀ x, (encs x).size = ps.size)
    (I : Nat → List α → World → Prop) (Ix : Nat → Code → List α → World → Prop)
    (hI : ∀ X, w.heap.size + 2 ≤ X → Bears (Its L w.heap.size X) (I X)) (hIx : ∀ X c, w.heap.size + 2 ≤ X → Bears (Its L w.heap.size X) (Ix X c))
    (h0 : ∀ X, w.heap.size + 2 ≤ X → I X [] w) (a₁ : α → Act)
    (hassign : ∀ (l : Nat) (x : α) (W : World) (K : Act → World → Prop), K (a₁ x) W →
      assign.wpIn (F.inRound l) (n - 1 - 1) P (Exit.then K (fun _ _ _ => False)) { tmps := (ps.zip (encs x)).foldl (fun t (p, v) => t.setIfInBounds p v) a.tmps, defers := [] } W)
    (hbody : ∀ (X l : Nat) (pre : List α) (x : α) (W : World), w.heap.size + 2 ≤ X → X ≤ W.heap.size → I X pre W → Sp (pre ++ [x]) →
      body.wpIn (F.inRound l) (n - 1 - 1) P (postT (Its L w.heap.size X) (I X) (Ix X) (pre ++ [x]) W) (a₁ x) W)
    (hdone : ∀ (X D : Nat) (xs : List α) (W : World), w.heap.size + 2 ≤ X → w.heap.size ≤ D → D < X → S xs → I X xs W → W.heap[D]? = some (.deferred (some [])) →
      Q .normal { a with defers := { target := .collected D, args := #[] } :: a.defers } W)
    (hstop : ∀ (X D : Nat) (c : Code) (pre : List α) (W : World), w.heap.size + 2 ≤ X → w.heap.size ≤ D → D < X → Sp pre → Ix X c pre W → W.heap[D]? = some (.deferred (some [])) →
      c.wpIn F n P Q { a with defers := { target := .collected D, args := #[] } :: a.defers } W) :
    (Code.rangeFunc g ps assign body).wpIn F n P Q a w := by
  refine wpIn_rangeFunc ?_
  intro fn hfn
  rw [hro]
  -- the record, and the world in which the iterator is called
  let rec_ : LoopState → Option Code → Loop := fun st pe => { state := st, pending := pe, fn, tmps := a.tmps, params := ps, assign, body, defers := w.heap.size }
  have hB : Below w.heap.size w ((w.alloc (.deferred (some []))).alloc (.loop (rec_ .ready none))) := ((Below.refl _ w).alloc (Nat.le_refl _) _).alloc (by simp) _
  have hsz : ((w.alloc (.deferred (some []))).alloc (.loop (rec_ .ready none))).heap.size = w.heap.size + 2 := by simp
  have hl1 : ((w.alloc (.deferred (some []))).alloc (.loop (rec_ .ready none))).heap[w.heap.size + 1]? = some (.loop (rec_ .ready none)) := heap_alloc2_new _ _ _
  have hd1 : ((w.alloc (.deferred (some []))).alloc (.loop (rec_ .ready none))).heap[w.heap.size]? = some (.deferred (some [])) := heap_alloc2_old _ _ _
  have hI1 : ∀ X, w.heap.size + 2 ≤ X → I X [] ((w.alloc (.deferred (some []))).alloc (.loop (rec_ .ready none))) := fun X hX =>
    hI X hX _ _ _ none (hI X hX _ _ _ none (h0 X hX) (World.grownBy_alloc _ _ none) (fun r e => by cases e)) (World.grownBy_alloc _ _ none) (fun r e => by cases e)
  obtain ⟨W0, hW0⟩ : ∃ W0, W0 = (w.alloc (.deferred (some []))).alloc (.loop (rec_ .ready none)) := ⟨_, rfl⟩
  have hent : (Instr.enterLoop fn a.tmps ps assign body none).run P w = .ok (w.heap.size + 1, [{ target := .collected w.heap.size, args := #[] }]) W0 := by rw [hW0]; exact run_enterLoop_outer _ _ _ _ _
  rw [← hW0] at hB hsz hl1 hd1 hI1
  clear hW0
  refine ⟨w.heap.size + 1, [{ target := .collected w.heap.size, args := #[] }], W0, { target := .fn (.func gf) lb, args := #[.func (.yield (w.heap.size + 1)) #[] #[]] }, W0, gf,
    #[.func (.yield (w.heap.size + 1)) #[] #[]] ++ lb, W0, hent, ?_, ?_, ?_, fun _ => h1, ?_⟩
  · simp only [resolve, hg]
    simp [go_sem]
  · intro f' hf'; simp [Target.leads] at hf'; subst hf'; exact hFg
  · simp [invoke, go_sem, eg]
  -- the iterator's contract, with the record and the block of deferred calls beside the caller's invariant
  have hnl : ∀ X, ¬ Its L (w.heap.size + 2) X (w.heap.size + 1) := fun X h => by
    rcases h with h | h
    · have := hL _ h; omega
    · omega
  have hnd : ∀ X, ¬ Its L (w.heap.size + 2) X w.heap.size := fun X h => by
    rcases h with h | h
    · have := hL _ h; omega
    · omega
  have hsub : ∀ X k, Its L (w.heap.size + 2) X k → Its L w.heap.size X k := fun X k h => by
    rcases h with h | h
    · exact .inl h
    · exact .inr ⟨by omega, h.2⟩
  have keep : ∀ {A B : World} {row : Option Nat} {X k : Nat} {o : Obj}, A.grownBy B row → (∀ r, row = some r → Its L (w.heap.size + 2) X r) → ¬ Its L (w.heap.size + 2) X k → A.heap[k]? = some o → B.heap[k]? = some o :=
    fun {A B row X k o} hg' hr hk ho => (hg'.block k (Array.getElem?_eq_some_iff.1 ho).1 (fun e => hk (hr k e.symm))).trans ho
  have own1 : ∀ X, w.heap.size + 2 ≤ X → Its L w.heap.size X (w.heap.size + 1) := fun X hX => .inr ⟨by omega, by omega⟩
  have own0 : ∀ X, w.heap.size + 2 ≤ X → Its L w.heap.size X w.heap.size := fun X hX => .inr ⟨by omega, by omega⟩
  rw [← hsz] at hnl hnd hsub keep
  refine (hseq (w.heap.size + 1)
    (fun X pre W => I X pre W ∧ W.heap[w.heap.size + 1]? = some (.loop (rec_ .ready none)) ∧ W.heap[w.heap.size]? = some (.deferred (some [])))
    (fun X pre W => ∃ c, Ix X c pre W ∧ W.heap[w.heap.size + 1]? = some (.loop (rec_ .done (some c))) ∧ W.heap[w.heap.size]? = some (.deferred (some []))) W0 hB
    (fun X hX s A B row hs hg' hr => ⟨hI X (by omega) s A B row hs.1 hg' (fun r e => hsub X r (hr r e)), keep hg' hr (hnl X) hs.2.1, keep hg' hr (hnd X) hs.2.2⟩)
    (fun X hX s A B row hs hg' hr => by
      obtain ⟨c, hc, hl, hk⟩ := hs
      exact ⟨c, hIx X c (by omega) s A B row hc hg' (fun r e => hsub X r (hr r e)), keep hg' hr (hnl X) hl, keep hg' hr (hnd X) hk⟩)
    ?_ (fun X hX => ⟨hI1 X (by omega), hl1, hd1⟩)).mono ?_
  · -- one round
    rintro X pre x W hX hXW ⟨hi, hl, hk⟩ hlen
    have hX2 : w.heap.size + 2 ≤ X := by omega
    have hlt : w.heap.size + 1 < W.heap.size := (Array.getElem?_eq_some_iff.1 hl).1
    refine ⟨fn, _, assign, body, run_yield (P := P) (args := encs x) hl (hps x), roundIn_of_wpIn hfn (hassign _ x W _ ⟨_, run_beginRound hl rfl, ?_⟩)⟩
    have hg2 := grownBy_putObj' W (w.heap.size + 1) (.loop { rec_ .ready none with state := .busy })
    have hl2 : (W.putObj (w.heap.size + 1) (.loop { rec_ .ready none with state := .busy })).heap[w.heap.size + 1]? = some (.loop { rec_ .ready none with state := .busy }) := World.putObj_heap_same hlt
    have hk2 : (W.putObj (w.heap.size + 1) (.loop { rec_ .ready none with state := .busy })).heap[w.heap.size]? = some (.deferred (some [])) := (World.putObj_heap_other (by omega)).trans hk
    have hi2 : I X pre (W.putObj (w.heap.size + 1) (.loop { rec_ .ready none with state := .busy })) := hI X hX2 _ _ _ _ hi hg2 (fun r e => by cases e; exact own1 X hX2)
    have hs2 : X ≤ (W.putObj (w.heap.size + 1) (.loop { rec_ .ready none with state := .busy })).heap.size := Nat.le_trans hXW hg2.size
    have lie2 : Lies (Its L W0.heap.size X) W (W.putObj (w.heap.size + 1) (.loop { rec_ .ready none with state := .busy })) :=
      ⟨hg2.size, fun k hk' => World.putObj_heap_other (fun e => hnl X (e ▸ hk'))⟩
    refine wpIn_mono (hbody X _ pre x _ hX2 hs2 hi2 hlen) ?_
    have fin : ∀ (jump : Option Code) (W3 : World), Lies (Its L w.heap.size X) (W.putObj (w.heap.size + 1) (.loop { rec_ .ready none with state := .busy })) W3 →
        (Instr.endRound (w.heap.size + 1) jump).run P W3 = .ok (.bool jump.isNone) (W3.putObj (w.heap.size + 1) (.loop (rec_ (if jump.isNone then .ready else .done) jump))) ∧
        (W3.putObj (w.heap.size + 1) (.loop (rec_ (if jump.isNone then .ready else .done) jump))).heap[w.heap.size + 1]? = some (.loop (rec_ (if jump.isNone then .ready else .done) jump)) ∧
        (W3.putObj (w.heap.size + 1) (.loop (rec_ (if jump.isNone then .ready else .done) jump))).heap[w.heap.size]? = some (.deferred (some [])) := fun jump W3 hk3 => by
      have hl3 := (hk3.2 _ (own1 X hX2)).trans hl2
      exact ⟨run_endRound (P := P) jump hl3, World.putObj_heap_same (Array.getElem?_eq_some_iff.1 hl3).1, (World.putObj_heap_other (by omega)).trans ((hk3.2 _ (own0 X hX2)).trans hk2)⟩
    have turn : ∀ (W3 : World) (o : Obj) (r : Nat), some (w.heap.size + 1) = some r → Its L w.heap.size X r := fun W3 o r e => by cases e; exact own1 X hX2
    have lie4 : ∀ (W3 : World) (o : Obj), Lies (Its L w.heap.size X) (W.putObj (w.heap.size + 1) (.loop { rec_ .ready none with state := .busy })) W3 → Lies (Its L W0.heap.size X) W (W3.putObj (w.heap.size + 1) o) := fun W3 o hk3 =>
      (lie2.trans (hk3.sub (hsub X))).trans ⟨(grownBy_putObj' W3 _ _).size, fun k hk' => World.putObj_heap_other (fun e => hnl X (e ▸ hk'))⟩
    rintro e a3 W3 hp
    cases e with
    | normal =>
      obtain ⟨hk3, hi3⟩ := hp
      obtain ⟨hr, hl4, hk4⟩ := fin none W3 hk3
      refine ⟨_, _, hr, .inl ⟨rfl, ⟨hI X hX2 _ _ _ _ hi3 (grownBy_putObj' W3 _ _) (turn W3 (.deferred none)), hl4, hk4⟩, ?_⟩⟩
      exact lie4 W3 _ hk3
    | ret =>
      obtain ⟨hk3, hi3⟩ := hp
      obtain ⟨hr, hl4, hk4⟩ := fin (some .ret) W3 hk3
      exact ⟨_, _, hr, .inr ⟨rfl, ⟨.ret, hIx X _ hX2 _ _ _ _ hi3 (grownBy_putObj' W3 _ _) (turn W3 (.deferred none)), hl4, hk4⟩, lie4 W3 _ hk3⟩⟩
    | exit id =>
      obtain ⟨hk3, hi3⟩ := hp
      obtain ⟨hr, hl4, hk4⟩ := fin (some (.exit id)) W3 hk3
      exact ⟨_, _, hr, .inr ⟨rfl, ⟨.exit id, hIx X _ hX2 _ _ _ _ hi3 (grownBy_putObj' W3 _ _) (turn W3 (.deferred none)), hl4, hk4⟩, lie4 W3 _ hk3⟩⟩
    | goto t =>
      obtain ⟨hk3, hi3⟩ := hp
      obtain ⟨hr, hl4, hk4⟩ := fin (some (.goto t)) W3 hk3
      exact ⟨_, _, hr, .inr ⟨rfl, ⟨.goto t, hIx X _ hX2 _ _ _ _ hi3 (grownBy_putObj' W3 _ _) (turn W3 (.deferred none)), hl4, hk4⟩, lie4 W3 _ hk3⟩⟩
    | panic ch => exact hp.elim
    | outgrown => exact hp.elim
  · -- behind the iterator
    rintro e W2 ⟨⟨v, rfl⟩, X, hX, hcase⟩
    have hX2 : w.heap.size + 2 ≤ X := by omega
    have turn : ∀ (r : Nat), some (w.heap.size + 1) = some r → Its L w.heap.size X r := fun r e => by cases e; exact own1 X hX2
    rcases hcase with ⟨xs, hS, hi, hl, hk⟩ | ⟨pre, hSp, c, hi, hl, hk⟩
    · exact ⟨none, _, run_endLoop (P := P) hl (by simp [rec_]), hdone X _ xs _ hX2 (Nat.le_refl _) (by omega) hS (hI X hX2 _ _ _ _ hi (grownBy_putObj' W2 _ _) turn) ((World.putObj_heap_other (by omega)).trans hk)⟩
    · exact ⟨some c, _, run_endLoop (P := P) hl (by simp [rec_]), hstop X _ c pre _ hX2 (Nat.le_refl _) (by omega) hSp (hIx X c hX2 _ _ _ _ hi (grownBy_putObj' W2 _ _) turn) ((World.putObj_heap_other (by omega)).trans hk)⟩
end Go.Proofs.YteoafohebgfjdaaGreatDoor
/-
  strings.SplitSeq at a slash: the iterator's contract. It stores into its captured text.
-/
namespace Go.Proofs.YteoafohebgfjdaaGreatDoor
open Go.RowKit Go.Shelf
set_option maxRecDepth 100000
attribute [local go_sem] Oper.semAt_some

/-- What stands between slashes. -/
def splitL : List UInt8 → List (List UInt8)
  | [] => [[]]
  | c :: r => if c == 47 then [] :: splitL r else match splitL r with
    | [] => [[c]]
    | h :: t => (c :: h) :: t

theorem splitL_ne (l : List UInt8) : splitL l ≠ [] := by
  cases l with
  | nil => simp [splitL]
  | cons c r =>
    unfold splitL
    split
    · simp
    · split <;> simp

theorem splitL_none : ∀ l : List UInt8, Lib.indexByte l 47 = -1 → splitL l = [l]
  | [], _ => rfl
  | c :: r, h => by
    unfold Lib.indexByte at h
    split at h
    · omega
    · rename_i hc
      have hr : Lib.indexByte r 47 = -1 := by
        split at h
        · rename_i h1; simpa using h1
        · have := Lib.indexByte_ge r 47; omega
      unfold splitL
      rw [if_neg hc, splitL_none r hr]

theorem splitL_some : ∀ (l : List UInt8) (o : Nat), Lib.indexByte l 47 = o → splitL l = l.take o :: splitL (l.drop (o + 1)) ∧ o < l.length
  | [], o, h => by unfold Lib.indexByte at h; omega
  | c :: r, o, h => by
    unfold Lib.indexByte at h
    split at h
    · rename_i hc
      obtain rfl : o = 0 := by omega
      unfold splitL
      rw [if_pos hc]
      simp
      cases r <;> simp [splitL]
    · rename_i hc
      split at h
      · omega
      · rename_i h1
        have hge := Lib.indexByte_ge r 47
        obtain ⟨o', ho⟩ : ∃ o' : Nat, Lib.indexByte r 47 = o' := ⟨(Lib.indexByte r 47).toNat, by simp at h1; omega⟩
        obtain rfl : o = o' + 1 := by omega
        obtain ⟨e, hl⟩ := splitL_some r o' ho
        constructor
        · rw [splitL.eq_def]
          simp only [hc, if_false, Bool.false_eq_true, e]
          simp
        · simp; omega

def boxLen (w : World) (b : Nat) : Nat := match w.cell? ⟨b, 0, none⟩ with | some (.string t) => t.size | _ => 0
theorem boxLen_eq {w : World} {b : Nat} {t : ByteArray} (h : w.cell? ⟨b, 0, none⟩ = some (.string t)) : boxLen w b = t.size := by unfold boxLen; rw [h]

set_option maxRecDepth 100000 in
set_option maxHeartbeats 2000000 in
theorem split_seq (n : Nat) (bs bp bv : Nat) (s : ByteArray) (w : World) (hss : (s.size : Int) ≤ 9223372036854775800) (hn1 : bs ≠ bp) (hn2 : bs ≠ bv) (l1 : bs < w.heap.size) (l2 : bp < w.heap.size) (l3 : bv < w.heap.size)
    (c1 : w.heap[bs]? = some (.cells #[.string s] 9 (0, 0))) (c2 : w.heap[bp]? = some (.cells #[.string ⟨#[47]⟩] 9 (0, 0))) (c3 : w.heap[bv]? = some (.cells #[.int .i64 0] 3 (0, 0))) :
    SeqT Fence.wide n Tryz.prog 106 #[.pointer (some ⟨bp, 0, none⟩), .pointer (some ⟨bs, 0, none⟩), .pointer (some ⟨bv, 0, none⟩)] (fun x : ByteArray => #[.string x]) [bs, bp, bv]
      (fun xs => xs.map toL = splitL (toL s)) (fun pre => pre.map toL <+: splitL (toL s)) w := by
  intro l J Jx W hW hJ hJx hY h0
  have hJ := hJ W.heap.size (Nat.le_refl _)
  have hY := fun pre x W1 => hY W.heap.size pre x W1 (Nat.le_refl _)
  have h0 := h0 W.heap.size (Nat.le_refl _)
  refine (CallsIn.mono ?_ (fun e W' (h : (∃ v, e = Ending.returned v) ∧ ((∃ xs : List ByteArray, xs.map toL = splitL (toL s) ∧ J W.heap.size xs W') ∨ (∃ pre : List ByteArray, pre.map toL <+: splitL (toL s) ∧ Jx W.heap.size pre W'))) => ⟨h.1, W.heap.size, Nat.le_refl _, h.2⟩))
  have k1 : W.heap[bs]? = some (.cells #[.string s] 9 (0, 0)) := (hW.block _ l1).trans c1
  have k2 : W.heap[bp]? = some (.cells #[.string ⟨#[47]⟩] 9 (0, 0)) := (hW.block _ l2).trans c2
  have k3 : W.heap[bv]? = some (.cells #[.int .i64 0] 3 (0, 0)) := (hW.block _ l3).trans c3
  clear c1 c2 c3 hW l1 l2 l3 hJx
  have d1 : W.cell? ⟨bs, 0, none⟩ = some (.string s) := cell_of_row _ _ _ _ _ _ k1
  have d2 : W.cell? ⟨bp, 0, none⟩ = some (.string ⟨#[47]⟩) := cell_of_row _ _ _ _ _ _ k2
  have d3 : W.cell? ⟨bv, 0, none⟩ = some (.int .i64 0) := cell_of_row _ _ _ _ _ _ k3
  refine callsIn_of_wp Tryz.func106 rfl trivial ?_ rfl
  simp only [Tryz.ntmps106, List.size_toArray, List.length_cons, List.length_nil, Nat.reduceAdd, Nat.reduceSub, Array.replicate_succ, Array.replicate_zero, List.push_toArray, List.append_toArray, List.nil_append, List.cons_append]
  gi_wp2
  gi_loopw [7] (fun _ wr => ∃ (pre : List ByteArray) (t : ByteArray), wr.heap[bs]? = some (.cells #[.string t] 9 (0, 0)) ∧ wr.heap[bp]? = some (.cells #[.string ⟨#[47]⟩] 9 (0, 0)) ∧ wr.heap[bv]? = some (.cells #[.int .i64 0] 3 (0, 0)) ∧ Hid (pre.map toL ++ splitL (toL t) = splitL (toL s)) ∧ t.size ≤ s.size ∧ W.heap.size ≤ wr.heap.size ∧ J W.heap.size pre wr) (fun _ wr => boxLen wr bs)
  case atStart => exact ⟨[], s, k1, k2, k3, hide rfl, Nat.le_refl _, Nat.le_refl _, h0⟩
  case round =>
    obtain ⟨pre, t, e1, e2, e3, HP, hts, hsz, hj⟩ := hrel
    have f1 : wr.cell? ⟨bs, 0, none⟩ = some (.string t) := cell_of_row _ _ _ _ _ _ e1
    have f2 : wr.cell? ⟨bp, 0, none⟩ = some (.string ⟨#[47]⟩) := cell_of_row _ _ _ _ _ _ e2
    have f3 : wr.cell? ⟨bv, 0, none⟩ = some (.int .i64 0) := cell_of_row _ _ _ _ _ _ e3
    have z1 : wr.frozen? ⟨bs, 0, none⟩ = false := frozen_of_row _ _ _ _ _ e1
    clear d1 d2 d3 k1 k2 k3
    by_cases hi : Lib.indexByte t.data.toList 47 = -1
    · have hs1 := splitL_none _ hi
      have HE := hide (show (pre ++ [t]).map toL = splitL (toL s) by rw [← HP.out, List.map_append, show splitL (toL t) = [toL t] from hs1]; rfl)
      obtain ⟨fn, tmps, assign, body, hy, hR⟩ := hY pre t wr hsz hj (by rw [HE.out]; exact List.prefix_refl _)
      have HR := hide hR
      clear hY hR
      gi_wp2_with fail
      refine ⟨trivial, fun h => (by cases h), (callsIn_wide.2 (index_any t 47 _)).mono ?_⟩
      rintro e w' ⟨rfl, rfl⟩
      rw [hi]
      gi_wp2_with fail
      refine ⟨fun h => (by cases h), HR.out.mono ?_⟩
      rintro e W' (⟨rfl, hJ', hk⟩ | ⟨rfl, hJx', hk⟩)
      · gi_wp2
        go_end0
        exact ⟨⟨_, rfl⟩, .inl ⟨pre ++ [t], HE.out, hJ'⟩⟩
      · gi_wp2
        go_end0
        exact ⟨⟨_, rfl⟩, .inr ⟨pre ++ [t], by rw [HE.out]; exact List.prefix_refl _, hJx'⟩⟩
    · have hge := Lib.indexByte_ge t.data.toList 47
      obtain ⟨o, ho⟩ : ∃ o : Nat, Lib.indexByte t.data.toList 47 = o := ⟨(Lib.indexByte t.data.toList 47).toNat, by omega⟩
      obtain ⟨hs1, hol⟩ := splitL_some _ o ho
      rw [← Lib.size_eq] at hol
      have hx : toL (t.extract 0 o) = t.data.toList.take o := by unfold toL; rw [Lib.extract_data]; simp
      have hy2 : toL (t.extract (o + 1) t.size) = t.data.toList.drop (o + 1) := by
        unfold toL
        rw [Lib.extract_data, List.take_of_length_le (by simp)]
      have HE := hide (show (pre ++ [t.extract 0 o]).map toL ++ splitL (toL (t.extract (o + 1) t.size)) = splitL (toL s) by
        rw [← HP.out, List.map_append, hy2, show splitL (toL t) = t.data.toList.take o :: splitL (t.data.toList.drop (o + 1)) from hs1, ← hx]
        simp)
      obtain ⟨fn, tmps, assign, body, hy, hR⟩ := hY pre (t.extract 0 o) wr hsz hj ⟨_, HE.out⟩
      have HR := hide hR
      have ho1 : (o : Int) < t.size := by omega
      have ho2 : (o : Int) ≤ 9223372036854775800 := by omega
      have hsz2 : (t.extract (o + 1) t.size).size < t.size := by simp [ByteArray.size_extract]; omega
      have HZ := hide hsz2
      have HO := hide ho
      clear hR hi hge hs1 hx hy2 hsz2 ho
      gi_wp2_with fail
      refine ⟨trivial, fun h => (by cases h), (callsIn_wide.2 (index_any t 47 _)).mono ?_⟩
      rintro e w' ⟨rfl, rfl⟩
      rw [HO.out]
      gi_wp2_with fail
      refine ⟨fun h => (by cases h), HR.out.mono ?_⟩
      rintro e W' (⟨rfl, hJ', hk⟩ | ⟨rfl, hJx', hk⟩)
      · have g1 := (hk.2 bs (.inl (by simp))).trans e1
        have g2 := (hk.2 bp (.inl (by simp))).trans e2
        have g3 := (hk.2 bv (.inl (by simp))).trans e3
        have p1 : W'.cell? ⟨bs, 0, none⟩ = some (.string t) := cell_of_row _ _ _ _ _ _ g1
        have p2 : W'.cell? ⟨bp, 0, none⟩ = some (.string ⟨#[47]⟩) := cell_of_row _ _ _ _ _ _ g2
        have q1 : W'.frozen? ⟨bs, 0, none⟩ = false := frozen_of_row _ _ _ _ _ g1
        gi_wp2
        go_roundw
        case rel => exact ⟨pre ++ [t.extract 0 o], t.extract (o + 1) t.size, heap_setCell_same _ _ _ _ _ _ g1, (heap_setCell_other _ _ _ _ (fun e => hn1 e.symm)).trans g2, (heap_setCell_other _ _ _ _ (fun e => hn2 e.symm)).trans g3, HE, by have := HZ.out; omega, by have := hk.1; simp [World.setCell]; omega,
          hJ _ W' _ (some bs) hJ' (grownBy_setCell _ _ _) (fun r e => by cases e; exact .inl (by simp))⟩
        case measure => rw [boxLen_eq (cell_of_row _ _ _ _ _ _ (heap_setCell_same _ _ _ _ _ _ g1)), boxLen_eq f1]; exact HZ.out
      · gi_wp2
        refine bodyPost_ret (results_none rfl _ _ _) rfl ?_
        exact ⟨⟨_, rfl⟩, .inr ⟨pre ++ [t.extract 0 o], ⟨_, HE.out⟩, hJx'⟩⟩
end Go.Proofs.YteoafohebgfjdaaGreatDoor
/-
  What paths.Name answers.
-/
namespace Go.Proofs.YteoafohebgfjdaaGreatDoor
open Go.RowKit
set_option maxRecDepth 100000

def nameL (L : List UInt8) : Bool := !L.isEmpty && decide (L.length ≤ 12) && !(L == [46]) && !(L == [46, 46]) && L.all (fun c => letter c.toNat)

theorem nameL_snoc (s : ByteArray) (k : Nat) (h : k < s.size) : (s.data.toList.take (k + 1)).all (fun c => letter c.toNat) = ((s.data.toList.take k).all (fun c => letter c.toNat) && letter s[k].toNat) := by
  have h' : k < s.data.toList.length := by simpa using h
  have e : s.data.toList.take (k + 1) = s.data.toList.take k ++ [s.data.toList[k]] := List.take_succ_eq_append_getElem h'
  rw [e, List.all_append]
  congr 1
  show (letter s[k].toNat && true) = _
  simp

theorem name_long (s : ByteArray) (w : World) (h : (12 : Int) < s.size) (h0 : s.toList.isEmpty = false) :
    Calls Tryz.prog 87 #[.string s] w fun e w' => e = .returned (.bool (nameL s.data.toList)) ∧ w = w' := by
    have HL := hide (show nameL s.data.toList = false by
      have : ¬ s.data.toList.length ≤ 12 := by rw [← Lib.size_eq]; omega
      unfold nameL; simp only [this]; simp)
    go_enter Tryz.func87, Tryz.ntmps87
    go_wp2
    go_ret
    exact ⟨by rw [HL.out]; rfl, rfl⟩

set_option maxHeartbeats 800000 in
theorem name_any (s : ByteArray) (w : World) :
    Calls Tryz.prog 87 #[.string s] w fun e w' => e = .returned (.bool (nameL s.data.toList)) ∧ w = w' := by
  cases h0 : s.toList.isEmpty with
  | true =>
    have HL := hide (show nameL s.data.toList = false by unfold nameL; rw [← Lib.toList_data, h0]; rfl)
    go_enter Tryz.func87, Tryz.ntmps87
    go_wp2
    go_ret
    exact ⟨by rw [HL.out]; rfl, rfl⟩
  | false =>
  by_cases h1 : (12 : Int) < s.size
  · exact name_long s w h1 h0
  cases h2 : (s.toList == [46]) with
  | true =>
    have HL := hide (show nameL s.data.toList = false by unfold nameL; rw [← Lib.toList_data, h2]; simp)
    go_enter Tryz.func87, Tryz.ntmps87
    go_wp2
    go_ret
    exact ⟨by rw [HL.out]; rfl, rfl⟩
  | false =>
  cases h3 : (s.toList == [46, 46]) with
  | true =>
    have HL := hide (show nameL s.data.toList = false by unfold nameL; rw [← Lib.toList_data, h3]; simp)
    go_enter Tryz.func87, Tryz.ntmps87
    go_wp2
    go_ret
    exact ⟨by rw [HL.out]; rfl, rfl⟩
  | false =>
    have hb : nameL s.data.toList = s.data.toList.all (fun c => letter c.toNat) := by
      have hl : decide (s.data.toList.length ≤ 12) = true := by rw [← Lib.size_eq]; simp; omega
      unfold nameL
      rw [hl]
      rw [← Lib.toList_data, h0, h2, h3]
      simp
    have HB := hide hb
    clear hb
    go_enter Tryz.func87, Tryz.ntmps87
    go_wp2
    go_loop [21] (fun i => ∃ k : Nat, k ≤ s.size ∧ i = .int .i64 k ∧ Hid ((s.data.toList.take k).all (fun c => letter c.toNat) = true)) (fun i => s.size - (intOf i).toNat)
    case atStart => exact ⟨0, Nat.zero_le _, rfl, by simp [Hid]⟩
    case round =>
      obtain ⟨k, hk, rfl, HA⟩ := hrel
      by_cases hlt : (k : Int) < s.size
      · have hlt' : k < s.size := by omega
        have hsn := nameL_snoc s k hlt'
        rw [HA.out, Bool.true_and] at hsn
        cases hc : letter s[k].toNat with
        | true =>
          rw [hc] at hsn
          have HS := hide hsn
          clear hsn
          go_wp2_with (go_at_call 101; refine (ofName_any _ _).mono ?_; rintro e w' ⟨rfl, rfl⟩; rw [hc])
          exact ⟨⟨k + 1, by omega, by go_num, HS⟩, by simp [intOf]; omega⟩
        | false =>
          have HF := hide (show nameL s.data.toList = false by
            rw [HB.out, List.all_eq_false]
            exact ⟨s[k], by rw [show s[k] = s.data.toList[k]'(by simpa using hlt') from rfl]; exact List.getElem_mem _, by rw [hc]; simp⟩)
          clear hsn
          go_wp2_with (go_at_call 101; refine (ofName_any _ _).mono ?_; rintro e w' ⟨rfl, rfl⟩; rw [hc])
          go_ret
          exact ⟨by rw [HF.out]; rfl, rfl⟩
      · have HF := hide (show nameL s.data.toList = true by
          have := HA.out
          rw [List.take_of_length_le (by simp; omega)] at this
          rw [HB.out, this])
        go_wp2
        go_ret
        exact ⟨by rw [HF.out]; rfl, rfl⟩
end Go.Proofs.YteoafohebgfjdaaGreatDoor
