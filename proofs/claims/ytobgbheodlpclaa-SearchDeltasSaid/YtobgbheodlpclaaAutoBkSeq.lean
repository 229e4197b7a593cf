/-
  Texts that belong together: RangeK, BlkR, BkSeq.
-/
import Derived.Test.YtobgbheodlpclaaRange
import Derived.Test.YtobgbheodlpclaaAutoBytes
import Derived.Test.YtobgbheodlpclaaBkBlocks
import Derived.Test.YtobgbheodlpclaaRangeB
import Derived.OwnWalkIn
import Derived.TacticsInMore
import Derived.LoopNIn
import Derived.LoopIn
import Derived.Shelf.Abstract
import Derived.Shelf.RegionOpen
/-
  A range over a function whose iterator reads blocks that it does not turn (K): each round leaves these, too; nothing else is asked of the caller's invariant for their sake.
-/
namespace Go.Proofs.Ytobgbheodlpclaa
open Go.RowKit
set_option maxRecDepth 100000

/-- The iterator's own blocks, and those that it reads. -/
def ItsK (L K : List Nat) (b X k : Nat) : Prop := Its L b X k ∨ k ∈ K

/-- What an iterator that turns the blocks L, and reads the blocks K, is to its caller. -/
def SeqK {α : Type} (F : Fence) (n : Nat) (P : Program) (g : Nat) (lb : Array Value) (encs : α → Array Value) (L K : List Nat) (S Sp : List α → Prop) (w : World) : Prop :=
  ∀ (l : Nat) (J Jx : Nat → List α → World → Prop) (W : World), Below w.heap.size w W →
    (∀ X, W.heap.size ≤ X → Bears (Its L W.heap.size X) (J X)) → (∀ X, W.heap.size ≤ X → Bears (Its L W.heap.size X) (Jx X)) →
    (∀ X pre x W1, W.heap.size ≤ X → X ≤ W1.heap.size → J X pre W1 → Sp (pre ++ [x]) → YieldAt F (n - 1) P l (encs x) W1 fun e W' =>
      (e = .returned (.bool true) ∧ J X (pre ++ [x]) W' ∧ Lies (ItsK L K W.heap.size X) W1 W') ∨ (e = .returned (.bool false) ∧ Jx X (pre ++ [x]) W' ∧ Lies (ItsK L K W.heap.size X) W1 W')) →
    (∀ X, W.heap.size ≤ X → J X [] W) →
    CallsIn F n P g (#[.func (.yield l) #[] #[]] ++ lb) W fun e W' => (∃ v, e = .returned v) ∧ ∃ X, W.heap.size ≤ X ∧ ((∃ xs, S xs ∧ J X xs W') ∨ (∃ pre, Sp pre ∧ Jx X pre W'))


variable {F : Fence} {n : Nat} {P : Program}

theorem wpIn_rangeK {α : Type} {g : Operand} {ps : Array Tmp} {assign body : Code} {Q : Exit → Act → World → Prop} {a : Act} {w : World}
    (hro : F.round = none) (h1 : 1 ≤ n) {gf : Nat} {lb : Array Value} (hg : a.eval g = .func (.func gf) #[] lb) (hFg : F.fn gf) (eg : ∀ args w, (callFunc gf args).run P w = .ok (.enter gf args) w)
    {encs : α → Array Value} {L K : List Nat} {S Sp : List α → Prop} (hL : ∀ k, k ∈ L → k < w.heap.size) (hKs : ∀ k, k ∈ K → k < w.heap.size) (hseq : SeqK F (n - 1) P gf lb encs L K S Sp w) (hps : ∀ x, (encs x).size = ps.size)
    (I : Nat → List α → World → Prop) (Ix : Nat → Code → List α → World → Prop)
    (hI : ∀ X, w.heap.size + 2 ≤ X → Bears (Its L w.heap.size X) (I X)) (hIx : ∀ X c, w.heap.size + 2 ≤ X → Bears (Its L w.heap.size X) (Ix X c))
    (h0 : ∀ X, w.heap.size + 2 ≤ X → I X [] w) (a₁ : α → Act)
    (hassign : ∀ (l : Nat) (x : α) (W : World) (KK : Act → World → Prop), KK (a₁ x) W →
      assign.wpIn (F.inRound l) (n - 1 - 1) P (Exit.then KK (fun _ _ _ => False)) { tmps := (ps.zip (encs x)).foldl (fun t (p, v) => t.setIfInBounds p v) a.tmps, defers := [] } W)
    (hbody : ∀ (X l : Nat) (pre : List α) (x : α) (W : World), w.heap.size + 2 ≤ X → X ≤ W.heap.size → I X pre W → Sp (pre ++ [x]) →
      body.wpIn (F.inRound l) (n - 1 - 1) P (postT (ItsK L K w.heap.size X) (I X) (Ix X) (pre ++ [x]) W) (a₁ x) W)
    (hdone : ∀ (X D : Nat) (xs : List α) (W : World), w.heap.size + 2 ≤ X → w.heap.size ≤ D → D < X → S xs → I X xs W → W.heap[D]? = some (.deferred (some [])) →
      Q .normal { a with defers := { target := .collected D, args := #[] } :: a.defers } W)
    (hstop : ∀ (X D : Nat) (c : Code) (pre : List α) (W : World), w.heap.size + 2 ≤ X → w.heap.size ≤ D → D < X → Sp pre → Ix X c pre W → W.heap[D]? = some (.deferred (some [])) →
      c.wpIn F n P Q { a with defers := { target := .collected D, args := #[] } :: a.defers } W) :
    (Code.rangeFunc g ps assign body).wpIn F n P Q a w := by
  refine wpIn_rangeFunc ?_
  intro fn hfn
  rw [hro]
  -- the record, and the world in which the iterator is called
  let rec_ : LoopState → Option Code → Loop := fun st pe => { state := st, pending := pe, fn, tmps := a.tmps, params := ps, assign, body, defers := w.heap.size }
  have hB : Below w.heap.size w ((w.alloc (.deferred (some []))).alloc (.loop (rec_ .ready none))) := ((Below.refl _ w).alloc (Nat.le_refl _) _).alloc (by simp) _
  have hsz : ((w.alloc (.deferred (some []))).alloc (.loop (rec_ .ready none))).heap.size = w.heap.size + 2 := by simp
  have hl1 : ((w.alloc (.deferred (some []))).alloc (.loop (rec_ .ready none))).heap[w.heap.size + 1]? = some (.loop (rec_ .ready none)) := heap_alloc2_new _ _ _
  have hd1 : ((w.alloc (.deferred (some []))).alloc (.loop (rec_ .ready none))).heap[w.heap.size]? = some (.deferred (some [])) := heap_alloc2_old _ _ _
  have hI1 : ∀ X, w.heap.size + 2 ≤ X → I X [] ((w.alloc (.deferred (some []))).alloc (.loop (rec_ .ready none))) := fun X hX =>
    hI X hX _ _ _ none (hI X hX _ _ _ none (h0 X hX) (World.grownBy_alloc _ _ none) (fun r e => by cases e)) (World.grownBy_alloc _ _ none) (fun r e => by cases e)
  obtain ⟨W0, hW0⟩ : ∃ W0, W0 = (w.alloc (.deferred (some []))).alloc (.loop (rec_ .ready none)) := ⟨_, rfl⟩
  have hent : (Instr.enterLoop fn a.tmps ps assign body none).run P w = .ok (w.heap.size + 1, [{ target := .collected w.heap.size, args := #[] }]) W0 := by rw [hW0]; exact run_enterLoop_outer _ _ _ _ _
  rw [← hW0] at hB hsz hl1 hd1 hI1
  clear hW0
  refine ⟨w.heap.size + 1, [{ target := .collected w.heap.size, args := #[] }], W0, { target := .fn (.func gf) lb, args := #[.func (.yield (w.heap.size + 1)) #[] #[]] }, W0, gf,
    #[.func (.yield (w.heap.size + 1)) #[] #[]] ++ lb, W0, hent, ?_, ?_, ?_, fun _ => h1, ?_⟩
  · simp only [resolve, hg]
    simp [go_sem]
  · intro f' hf'; simp [Target.leads] at hf'; subst hf'; exact hFg
  · simp [invoke, go_sem, eg]
  -- the iterator's contract, with the record and the block of deferred calls beside the caller's invariant
  have hnl : ∀ X, ¬ Its L (w.heap.size + 2) X (w.heap.size + 1) := fun X h => by
    rcases h with h | h
    · have := hL _ h; omega
    · omega
  have hnd : ∀ X, ¬ Its L (w.heap.size + 2) X w.heap.size := fun X h => by
    rcases h with h | h
    · have := hL _ h; omega
    · omega
  have hnlK : ∀ X, ¬ ItsK L K (w.heap.size + 2) X (w.heap.size + 1) := fun X h => by
    rcases h with h | h
    · exact hnl X h
    · have := hKs _ h; omega
  have hsubK : ∀ X k, ItsK L K (w.heap.size + 2) X k → ItsK L K w.heap.size X k := fun X k h => by
    rcases h with h | h
    · rcases h with h | h
      · exact .inl (.inl h)
      · exact .inl (.inr ⟨by omega, h.2⟩)
    · exact .inr h
  have hsub : ∀ X k, Its L (w.heap.size + 2) X k → Its L w.heap.size X k := fun X k h => by
    rcases h with h | h
    · exact .inl h
    · exact .inr ⟨by omega, h.2⟩
  have keep : ∀ {A B : World} {row : Option Nat} {X k : Nat} {o : Obj}, A.grownBy B row → (∀ r, row = some r → Its L (w.heap.size + 2) X r) → ¬ Its L (w.heap.size + 2) X k → A.heap[k]? = some o → B.heap[k]? = some o :=
    fun {A B row X k o} hg' hr hk ho => (hg'.block k (Array.getElem?_eq_some_iff.1 ho).1 (fun e => hk (hr k e.symm))).trans ho
  have own1 : ∀ X, w.heap.size + 2 ≤ X → Its L w.heap.size X (w.heap.size + 1) := fun X hX => .inr ⟨by omega, by omega⟩
  have own0 : ∀ X, w.heap.size + 2 ≤ X → Its L w.heap.size X w.heap.size := fun X hX => .inr ⟨by omega, by omega⟩
  rw [← hsz] at hnl hnd hsub keep hnlK hsubK
  refine (hseq (w.heap.size + 1)
    (fun X pre W => I X pre W ∧ W.heap[w.heap.size + 1]? = some (.loop (rec_ .ready none)) ∧ W.heap[w.heap.size]? = some (.deferred (some [])))
    (fun X pre W => ∃ c, Ix X c pre W ∧ W.heap[w.heap.size + 1]? = some (.loop (rec_ .done (some c))) ∧ W.heap[w.heap.size]? = some (.deferred (some []))) W0 hB
    (fun X hX s A B row hs hg' hr => ⟨hI X (by omega) s A B row hs.1 hg' (fun r e => hsub X r (hr r e)), keep hg' hr (hnl X) hs.2.1, keep hg' hr (hnd X) hs.2.2⟩)
    (fun X hX s A B row hs hg' hr => by
      obtain ⟨c, hc, hl, hk⟩ := hs
      exact ⟨c, hIx X c (by omega) s A B row hc hg' (fun r e => hsub X r (hr r e)), keep hg' hr (hnl X) hl, keep hg' hr (hnd X) hk⟩)
    ?_ (fun X hX => ⟨hI1 X (by omega), hl1, hd1⟩)).mono ?_
  · -- one round
    rintro X pre x W hX hXW ⟨hi, hl, hk⟩ hlen
    have hX2 : w.heap.size + 2 ≤ X := by omega
    have hlt : w.heap.size + 1 < W.heap.size := (Array.getElem?_eq_some_iff.1 hl).1
    refine ⟨fn, _, assign, body, run_yield (P := P) (args := encs x) hl (hps x), roundIn_of_wpIn hfn (hassign _ x W _ ⟨_, run_beginRound hl rfl, ?_⟩)⟩
    have hg2 := grownBy_putObj' W (w.heap.size + 1) (.loop { rec_ .ready none with state := .busy })
    have hl2 : (W.putObj (w.heap.size + 1) (.loop { rec_ .ready none with state := .busy })).heap[w.heap.size + 1]? = some (.loop { rec_ .ready none with state := .busy }) := World.putObj_heap_same hlt
    have hk2 : (W.putObj (w.heap.size + 1) (.loop { rec_ .ready none with state := .busy })).heap[w.heap.size]? = some (.deferred (some [])) := (World.putObj_heap_other (by omega)).trans hk
    have hi2 : I X pre (W.putObj (w.heap.size + 1) (.loop { rec_ .ready none with state := .busy })) := hI X hX2 _ _ _ _ hi hg2 (fun r e => by cases e; exact own1 X hX2)
    have hs2 : X ≤ (W.putObj (w.heap.size + 1) (.loop { rec_ .ready none with state := .busy })).heap.size := Nat.le_trans hXW hg2.size
    have lie2 : Lies (ItsK L K W0.heap.size X) W (W.putObj (w.heap.size + 1) (.loop { rec_ .ready none with state := .busy })) :=
      ⟨hg2.size, fun k hk' => World.putObj_heap_other (fun e => hnlK X (e ▸ hk'))⟩
    refine wpIn_mono (hbody X _ pre x _ hX2 hs2 hi2 hlen) ?_
    have fin : ∀ (jump : Option Code) (W3 : World), Lies (ItsK L K w.heap.size X) (W.putObj (w.heap.size + 1) (.loop { rec_ .ready none with state := .busy })) W3 →
        (Instr.endRound (w.heap.size + 1) jump).run P W3 = .ok (.bool jump.isNone) (W3.putObj (w.heap.size + 1) (.loop (rec_ (if jump.isNone then .ready else .done) jump))) ∧
        (W3.putObj (w.heap.size + 1) (.loop (rec_ (if jump.isNone then .ready else .done) jump))).heap[w.heap.size + 1]? = some (.loop (rec_ (if jump.isNone then .ready else .done) jump)) ∧
        (W3.putObj (w.heap.size + 1) (.loop (rec_ (if jump.isNone then .ready else .done) jump))).heap[w.heap.size]? = some (.deferred (some [])) := fun jump W3 hk3 => by
      have hl3 := (hk3.2 _ (.inl (own1 X hX2))).trans hl2
      exact ⟨run_endRound (P := P) jump hl3, World.putObj_heap_same (Array.getElem?_eq_some_iff.1 hl3).1, (World.putObj_heap_other (by omega)).trans ((hk3.2 _ (.inl (own0 X hX2))).trans hk2)⟩
    have turn : ∀ (W3 : World) (o : Obj) (r : Nat), some (w.heap.size + 1) = some r → Its L w.heap.size X r := fun W3 o r e => by cases e; exact own1 X hX2
    have lie4 : ∀ (W3 : World) (o : Obj), Lies (ItsK L K w.heap.size X) (W.putObj (w.heap.size + 1) (.loop { rec_ .ready none with state := .busy })) W3 → Lies (ItsK L K W0.heap.size X) W (W3.putObj (w.heap.size + 1) o) := fun W3 o hk3 =>
      (lie2.trans (hk3.sub (hsubK X))).trans ⟨(grownBy_putObj' W3 _ _).size, fun k hk' => World.putObj_heap_other (fun e => hnlK X (e ▸ hk'))⟩
    rintro e a3 W3 hp
    cases e with
    | normal =>
      obtain ⟨hk3, hi3⟩ := hp
      obtain ⟨hr, hl4, hk4⟩ := fin none W3 hk3
      refine ⟨_, _, hr, .inl ⟨rfl, ⟨hI X hX2 _ _ _ _ hi3 (grownBy_putObj' W3 _ _) (turn W3 (.deferred none)), hl4, hk4⟩, ?_⟩⟩
      exact lie4 W3 _ hk3
    | ret =>
      obtain ⟨hk3, hi3⟩ := hp
      obtain ⟨hr, hl4, hk4⟩ := fin (some .ret) W3 hk3
      exact ⟨_, _, hr, .inr ⟨rfl, ⟨.ret, hIx X _ hX2 _ _ _ _ hi3 (grownBy_putObj' W3 _ _) (turn W3 (.deferred none)), hl4, hk4⟩, lie4 W3 _ hk3⟩⟩
    | exit id =>
      obtain ⟨hk3, hi3⟩ := hp
      obtain ⟨hr, hl4, hk4⟩ := fin (some (.exit id)) W3 hk3
      exact ⟨_, _, hr, .inr ⟨rfl, ⟨.exit id, hIx X _ hX2 _ _ _ _ hi3 (grownBy_putObj' W3 _ _) (turn W3 (.deferred none)), hl4, hk4⟩, lie4 W3 _ hk3⟩⟩
    | goto t =>
      obtain ⟨hk3, hi3⟩ := hp
      obtain ⟨hr, hl4, hk4⟩ := fin (some (.goto t)) W3 hk3
      exact ⟨_, _, hr, .inr ⟨rfl, ⟨.goto t, hIx X _ hX2 _ _ _ _ hi3 (grownBy_putObj' W3 _ _) (turn W3 (.deferred none)), hl4, hk4⟩, lie4 W3 _ hk3⟩⟩
    | panic ch => exact hp.elim
    | outgrown => exact hp.elim
  · -- behind the iterator
    rintro e W2 ⟨⟨v, rfl⟩, X, hX, hcase⟩
    have hX2 : w.heap.size + 2 ≤ X := by omega
    have turn : ∀ (r : Nat), some (w.heap.size + 1) = some r → Its L w.heap.size X r := fun r e => by cases e; exact own1 X hX2
    rcases hcase with ⟨xs, hS, hi, hl, hk⟩ | ⟨pre, hSp, c, hi, hl, hk⟩
    · exact ⟨none, _, run_endLoop (P := P) hl (by simp [rec_]), hdone X _ xs _ hX2 (Nat.le_refl _) (by omega) hS (hI X hX2 _ _ _ _ hi (grownBy_putObj' W2 _ _) turn) ((World.putObj_heap_other (by omega)).trans hk)⟩
    · exact ⟨some c, _, run_endLoop (P := P) hl (by simp [rec_]), hstop X _ c pre _ hX2 (Nat.le_refl _) (by omega) hSp (hIx X c hX2 _ _ _ _ hi (grownBy_putObj' W2 _ _) turn) ((World.putObj_heap_other (by omega)).trans hk)⟩
end Go.Proofs.Ytobgbheodlpclaa
/-
  The blocks of bytes that an iterator reads.
-/
namespace Go.Proofs.Ytobgbheodlpclaa
open Go.RowKit
set_option maxRecDepth 100000

/-- The blocks of bytes. -/
def blkA : Option Addr → List Nat
  | none => []
  | some a => [a.block]
/-- The blocks of bytes, if there are any. -/
def blkR (A : Option Addr) : List UInt8 → List Nat
  | [] => []
  | _ :: _ => blkA A
theorem RdB.lies {U : Nat → Prop} {w w' : World} {B B' : Nat} {A : Option Addr} {l : List UInt8} (h : RdB w B A l) (hl : Lies U w w') (hU : ∀ k, k ∈ blkR A l → U k) (hB : B ≤ B') : RdB w' B' A l := fun k x hx => by
  have hU : ∀ k, k ∈ blkA A → U k := by
    cases l with
    | nil => simp at hx
    | cons y r => exact hU
  obtain ⟨ad, rfl, hb, hc⟩ := h k x hx
  refine ⟨ad, rfl, by omega, ?_⟩
  rw [← hc]
  unfold World.cell?
  rw [hl.2 _ (hU _ (by rw [add_block]; simp [blkA]))]

theorem blkR_lt {w : World} {A : Option Addr} {l : List UInt8} (h : RdB w w.heap.size A l) : ∀ k, k ∈ blkR A l → k < w.heap.size := fun k hk => by
  cases l with
  | nil => simp [blkR] at hk
  | cons y r =>
    cases A with
    | none => simp [blkR, blkA] at hk
    | some ad =>
      simp [blkR, blkA] at hk
      subst hk
      exact h.spot.2

end Go.Proofs.Ytobgbheodlpclaa
/-
  block.blocks: the iterator's contract.
-/
namespace Go.Proofs.Ytobgbheodlpclaa
open Go.RowKit Go.Shelf
set_option maxRecDepth 100000
attribute [local go_sem] Oper.semAt_some

/-- A block that is told: where it lies, its capacity, its bytes. -/
abbrev Told := Option Addr × Nat × List UInt8
/-- What is known of it. -/
def ToldAt (W : World) (x : Told) : Prop := RdB W W.heap.size x.1 x.2.2 ∧ Caps x.1 x.2.2.length x.2.1
theorem told_put (W : World) (k : Nat) (o o' : Loop) (x : Told) (h : W.heap[k]? = some (.loop o)) (hx : ToldAt W x) : ToldAt (W.putObj k (.loop o')) x := by
  refine ⟨fun j y hy => ?_, hx.2⟩
  obtain ⟨ad, e, hlt, hc⟩ := hx.1 j y hy
  have hs : W.heap.size ≤ (W.putObj k (.loop o')).heap.size := (grownBy_putObj' W k (.loop o')).size
  refine ⟨ad, e, by omega, ?_⟩
  rw [← hc]
  by_cases hk : (ad.add j).block = k
  · exfalso
    unfold World.cell? at hc
    rw [hk, h] at hc
    simp at hc
  · exact World.cell?_of_block (World.putObj_heap_other hk)

set_option maxHeartbeats 1000000 in
theorem blocks_any (A : Option Addr) (m c : Nat) (k : Int) (w : World) :
    Calls Try.prog 68 #[.slice A m c, .int .i64 k] w fun e w' => e = .returned (.func (.func 103) #[] #[.pointer (some ⟨w.heap.size, 0, none⟩), .pointer (some ⟨w.heap.size + 1, 0, none⟩)]) ∧ w' = (w.alloc (.cells #[.slice A m c] 22)).alloc (.cells #[.int .i64 k] 3) := by
  go_enter Try.func68, Try.ntmps68
  go_wp2_with fail
  go_ret
  exact ⟨rfl, rfl⟩

theorem blocksL_get (l : List UInt8) (size : Int) (k : Nat) (hk : k < (countN l.length size).toNat) : (blocksL l size)[k]? = some (blkL l size k) := by
  rw [List.getElem?_eq_getElem (by rw [blocksL_len]; exact hk)]
  simp [blocksL]

set_option maxHeartbeats 8000000 in
theorem blocks_seq (nn : Nat) (bb bs : Nat) (A : Option Addr) (l : List UInt8) (c : Nat) (size : Int) (w : World) (hA : RdB w w.heap.size A l) (hc : Caps A l.length c) (hl : l.length ≤ 40000)
    (l1 : bb < w.heap.size) (l2 : bs < w.heap.size)
    (c1 : w.heap[bb]? = some (.cells #[.slice A l.length c] 22 (0, 0))) (c2 : w.heap[bs]? = some (.cells #[.int .i64 size] 3 (0, 0))) :
    SeqB Fence.wide nn Try.prog 103 #[.pointer (some ⟨bb, 0, none⟩), .pointer (some ⟨bs, 0, none⟩)] (fun x : Told => #[.slice x.1 x.2.2.length x.2.1]) [] (bb :: bs :: blkR A l)
      (fun xs => xs.map (·.2.2) = blocksL l size) (fun pre => pre.map (·.2.2) <+: blocksL l size) ToldAt w := by
  intro lp J Jx W hW hJ hJx hY h0
  have hJ := hJ W.heap.size (Nat.le_refl _)
  have hY := fun pre x W1 => hY W.heap.size pre x W1 (Nat.le_refl _)
  have h0 := h0 W.heap.size (Nat.le_refl _)
  refine (CallsIn.mono ?_ (fun e W' (h : (∃ v, e = Ending.returned v) ∧ ((∃ xs : List Told, xs.map (·.2.2) = blocksL l size ∧ J W.heap.size xs W') ∨ (∃ pre : List Told, pre.map (·.2.2) <+: blocksL l size ∧ Jx W.heap.size pre W'))) => ⟨h.1, W.heap.size, Nat.le_refl _, h.2⟩))
  have k1 : W.heap[bb]? = some (.cells #[.slice A l.length c] 22 (0, 0)) := (hW.block _ l1).trans c1
  have k2 : W.heap[bs]? = some (.cells #[.int .i64 size] 3 (0, 0)) := (hW.block _ l2).trans c2
  have hAW := (hA.below hW (Nat.le_refl _)).mono hW.size
  have hsz := hW.size
  clear c1 c2 hW hJx hA
  have d1 : W.cell? ⟨bb, 0, none⟩ = some (.slice A l.length c) := cell_of_row _ _ _ _ _ _ k1
  have d2 : W.cell? ⟨bs, 0, none⟩ = some (.int .i64 size) := cell_of_row _ _ _ _ _ _ k2
  have hnn := countN_nn l.length size
  have hle := countN_le l.length size
  obtain ⟨N, hN⟩ : ∃ N : Nat, countN l.length size = N := ⟨(countN l.length size).toNat, by omega⟩
  have HCo := hide (fun W2 => count_any l.length size W2 (by omega))
  have HGet := hide (fun (k : Nat) (hk : k < N) => (⟨blocksL_get l size k (by omega), blocks_take l size k (by omega)⟩ : (blocksL l size)[k]? = some (blkL l size k) ∧ (blocksL l size).take (k + 1) = (blocksL l size).take k ++ [blkL l size k]))
  have HAll := hide (show (blocksL l size).take N = blocksL l size by rw [List.take_of_length_le]; rw [blocksL_len]; omega)
  rw [hN] at HCo
  have hNl : N ≤ 40000 := by omega
  clear hnn hle hN
  generalize blocksL l size = L at HGet HAll hY ⊢
  refine callsIn_of_wp Try.func103 rfl trivial ?_ rfl
  simp only [Try.ntmps103, List.size_toArray, List.length_cons, List.length_nil, Nat.reduceAdd, Nat.reduceSub, Array.replicate_succ, Array.replicate_zero, List.push_toArray, List.append_toArray, List.nil_append, List.cons_append]
  gi_wp2_with fail
  refine ⟨trivial, fun h => (by cases h), (callsIn_wide.2 (HCo.out _)).mono ?_⟩
  rintro e W1 ⟨rfl, rfl⟩
  have HJ := hide hJ
  have HY := hide hY
  have HH0 := hide h0
  have HA := hide hAW
  clear hJ hY h0 hAW d1 d2
  clear hJ hY h0
  gi_wp2_with fail
  gi_loopw [9] (fun iv wr => ∃ (i : Nat) (pre : List Told), i ≤ N ∧ iv = .int .i64 i ∧ Hid (pre.map (·.2.2) = L.take i) ∧ wr.heap[bb]? = some (.cells #[.slice A l.length c] 22 (0, 0)) ∧ wr.heap[bs]? = some (.cells #[.int .i64 size] 3 (0, 0)) ∧ Hid (RdB wr wr.heap.size A l) ∧ W1.heap.size ≤ wr.heap.size ∧ Hid (J W1.heap.size pre wr)) (fun iv _ => N - (intOf iv).toNat)
  case atStart => exact ⟨0, [], by omega, rfl, hide (by simp), k1, k2, HA, Nat.le_refl _, HH0⟩
  case round =>
    obtain ⟨i, pre, hi, rfl, HP, e1, e2, HR, hwz, HJr⟩ := hrel
    clear k1 k2 HA HH0
    have f1 : wr.cell? ⟨bb, 0, none⟩ = some (.slice A l.length c) := cell_of_row _ _ _ _ _ _ e1
    have f2 : wr.cell? ⟨bs, 0, none⟩ = some (.int .i64 size) := cell_of_row _ _ _ _ _ _ e2
    by_cases hlt : (i : Int) < N
    · have hiN : i < N := by omega
      have hii : (N : Int) ≤ 40000 := by omega
      have HAt := hide (at_any A l c size i wr HR.out hc (by omega))
      obtain ⟨g1, g2⟩ := HGet.out i hiN
      have hbl := blkL_len l size i
      gi_wp2_with fail
      refine ⟨trivial, fun h => (by cases h), (callsIn_wide.2 HAt.out).mono ?_⟩
      rintro e W2 ⟨D, d, rfl, hO2, hB2⟩
      have hR2 := HR.out.step hB2
      have b1 := (hB2.block bb (Array.getElem?_eq_some_iff.1 e1).1).trans e1
      have b2 := (hB2.block bs (Array.getElem?_eq_some_iff.1 e2).1).trans e2
      have hz2 : W1.heap.size ≤ W2.heap.size := Nat.le_trans hwz hB2.size
      have hJ2 := HJ.out _ _ _ none HJr.out (grownBy_below hB2) (fun r e => by cases e)
      have hP2 : (pre ++ [((D, d, blkL l size i) : Told)]).map (·.2.2) = L.take (i + 1) := by
        rw [List.map_append, HP.out, g2]; rfl
      obtain ⟨fn, tmps, assign, body, hy, hRd⟩ := HY.out pre (D, d, blkL l size i) W2 hz2 hJ2 (by rw [hP2]; exact List.take_prefix _ _) ⟨RdB.own hO2, ownsRow_caps hO2⟩
      have HRy := hide hRd
      have HP2 := hide hP2
      clear hRd hJ2 hP2 hO2 HAt g1 g2 HJr HP f1 f2 e1 e2 HR hwz
      simp only at hy HRy
      generalize blkL l size i = bl at hy HRy HP2 hbl ⊢
      gi_wp2_with fail
      refine ⟨fun h => (by cases h), HRy.out.mono ?_⟩
      rintro e W' (⟨rfl, hJ', hk⟩ | ⟨rfl, hJx', hk⟩)
      · have p1 := (hk.2 bb (.inr (by simp))).trans b1
        have p2 := (hk.2 bs (.inr (by simp))).trans b2
        have HR' := hide (hR2.lies hk (fun k hk => .inr (by simp [hk])) hk.1)
        have hz' : W1.heap.size ≤ W'.heap.size := Nat.le_trans hz2 hk.1
        have HJ' := hide hJ'
        have hiw : IntKind.i64.wrap ((i : Int) + 1) = ((i + 1 : Nat) : Int) := by rw [IntWalk.i64_in _ (by omega)]; rfl
        clear HRy hy b1 b2 hR2 hk hJ' hB2
        gi_wp2_with fail
        go_roundw
        case rel => exact ⟨i + 1, _, by omega, rfl, HP2, p1, p2, HR', hz', HJ'⟩
        case measure => simp [intOf]; omega
      · have HJx := hide (And.intro HP2.out hJx')
        clear HRy hy b1 b2 hR2 hk hJx' hB2
        gi_wp2_with fail
        refine bodyPost_ret (results_none rfl _ _ _) rfl ?_
        exact ⟨⟨_, rfl⟩, .inr ⟨_, by rw [HJx.out.1]; exact List.take_prefix _ _, HJx.out.2⟩⟩
    · obtain rfl : i = N := by omega
      have HF := hide (show pre.map (·.2.2) = L by rw [HP.out, HAll.out])
      clear e1 e2 f1 f2 HR HP
      gi_wp2_with fail
      go_end0
      exact ⟨⟨_, rfl⟩, .inl ⟨_, HF.out, HJr.out⟩⟩
end Go.Proofs.Ytobgbheodlpclaa
