/-
  Texts that belong together: MiStore, MiVal, MkWithin.
-/
import Derived.Test.YteoafohebgfjdaaGreatDoorAutoRefCut
import Derived.Test.YteoafohebgfjdaaGreatDoorMiPick
import Derived.Test.YteoafohebgfjdaaGreatDoorAutoPathCutMore
import Derived.Test.YteoafohebgfjdaaGreatDoorAutoRefCore
import Derived.Test.YteoafohebgfjdaaGreatDoorAutoNodeRef
/-
  What stands at a place is stored; the plain values of lay.
-/
namespace Go.Proofs.YteoafohebgfjdaaGreatDoor
open Go.RowKit Go.Maps
set_option maxRecDepth 100000

def updV (V : Ns → Pl) (R : Ns) (f : Pl → Pl) : Ns → Pl := fun P => if P = R then f (V P) else V P
theorem updV_same (V : Ns → Pl) (R : Ns) (f : Pl → Pl) : updV V R f R = f (V R) := by unfold updV; rw [if_pos rfl]
theorem updV_other (V : Ns → Pl) (R P : Ns) (f : Pl → Pl) (h : P ≠ R) : updV V R f P = V P := by unfold updV; rw [if_neg h]
/-- A node's names. -/
def nmN (n : Nd) : Ns := namesL (toL n.path)
def setS (V : Ns → Pl) (n : Nd) : Ns → Pl := updV V (nmN n) fun v => { v with s := n }
def setD (del : Bool) (V : Ns → Pl) (n : Nd) : Ns → Pl := updV V (nmN n) fun v => { v with d := n, left := !del }
def setL (V : Ns → Pl) (u : List UInt8) : Ns → Pl := updV V (namesL u) fun v => { v with left := true }
def setG (V : Ns → Pl) (n : Nd) : Ns → Pl := (upsL (toL n.path)).foldl setL (updV V (nmN n) fun v => { v with shut := true, left := true })
def layV (S D G : List Nd) (del : Bool) : Ns → Pl := G.foldl setG (D.foldl (setD del) (S.foldl setS fun _ => zeroPl))
/-- What stands at a place becomes another thing. -/
theorem PT.store {w w' : World} {B : Nat} {LL : Bd} {A : Where} {V : Ns → Pl} (h : PT w B LL A V) {R : Ns} {q : Nat × Nat} (hR : A R = some q) (f : Pl → Pl)
    (hq : w'.heap[q.1]? = some (.cells ((f (V R)).cells q.2) 71 (0, 0))) (ho : ∀ k, k ≠ q.1 → w'.heap[k]? = w.heap[k]?) : PT w' B LL A (updV V R f) := by
  refine ⟨h.low, fun P r e => ?_, fun P r e => (h.map P r e).same (ho _ fun e2 => h.apart hR e e2.symm), h.inj1, h.inj2, h.up, fun P e => ?_, h.dom⟩
  · by_cases hP : P = R
    · subst hP
      rw [hR] at e
      injection e with e
      subst e
      rw [updV_same]
      exact hq
    · rw [updV_other _ _ _ _ hP]
      exact (ho _ fun e2 => hP (h.inj1 _ _ _ _ e hR e2)).trans (h.cell P r e)
  · rw [updV_other]
    · exact h.zero P e
    · rintro rfl
      rw [hR] at e; cases e
theorem Fr.store {A : Where} {w w' : World} {q : Nat × Nat} {R : Ns} (hR : A R = some q) (h1 : w'.os = w.os) (h2 : w'.tape = w.tape) (h3 : w'.output = w.output) (h4 : w.heap.size ≤ w'.heap.size) (ho : ∀ k, k ≠ q.1 → w'.heap[k]? = w.heap[k]?) : Fr A w w' :=
  ⟨h1, h2, h3, h4, fun k _ hn => ho k fun e => hn ⟨R, q, hR, .inl e⟩⟩
theorem cells_s (v : Pl) (m : Nat) (n : Nd) : ((((((v.cells m).setIfInBounds 0 (.string n.path)).setIfInBounds 1 (.int .i64 n.kind)).setIfInBounds 2 (.int .i64 n.mode)).setIfInBounds 3 (.int .i64 n.time)).setIfInBounds 4 (.string n.data)) = ({ v with s := n } : Pl).cells m := by
  unfold Pl.cells
  simp
theorem cells_d (v : Pl) (m : Nat) (n : Nd) (b : Bool) : (((((((v.cells m).setIfInBounds 5 (.string n.path)).setIfInBounds 6 (.int .i64 n.kind)).setIfInBounds 7 (.int .i64 n.mode)).setIfInBounds 8 (.int .i64 n.time)).setIfInBounds 9 (.string n.data)).setIfInBounds 11 (.bool b)) = ({ v with d := n, left := b } : Pl).cells m := by
  unfold Pl.cells
  simp
theorem cells_g (v : Pl) (m : Nat) : (((v.cells m).setIfInBounds 10 (.bool true)).setIfInBounds 11 (.bool true)) = ({ v with shut := true, left := true } : Pl).cells m := by
  unfold Pl.cells
  simp
theorem cells_l (v : Pl) (m : Nat) : ((v.cells m).setIfInBounds 11 (.bool true)) = ({ v with left := true } : Pl).cells m := by
  unfold Pl.cells
  simp
/-- But for one block all is as it was. -/
structure But (g : Nat) (w w' : World) : Prop where
  os : w'.os = w.os
  tape : w'.tape = w.tape
  output : w'.output = w.output
  size : w.heap.size ≤ w'.heap.size
  oth : ∀ k, k ≠ g → w'.heap[k]? = w.heap[k]?
theorem But.trans {g : Nat} {w w' w'' : World} (h : But g w w') (k : But g w' w'') : But g w w'' := ⟨k.os.trans h.os, k.tape.trans h.tape, k.output.trans h.output, Nat.le_trans h.size k.size, fun i hi => (k.oth i hi).trans (h.oth i hi)⟩
theorem set_step (w : World) (g j : Nat) (v : Value) {X : Array Value} {t : TypeId} (h : w.heap[g]? = some (.cells X t (0, 0))) :
    (w.setCell ⟨g, j, none⟩ v).heap[g]? = some (.cells (X.setIfInBounds j v) t (0, 0)) ∧ But g w (w.setCell ⟨g, j, none⟩ v) :=
  ⟨heap_setCell_same w g j _ _ v h, rfl, rfl, rfl, by simp, fun k hk => heap_setCell_other w _ k v hk⟩
/-- A node laid at its place: five cells. -/
theorem PT.node {w : World} {B : Nat} {LL : Bd} {A : Where} {V : Ns → Pl} (h : PT w B LL A V) {R : Ns} {q : Nat × Nat} (hR : A R = some q) (n : Nd) :
    PT (((((w.setCell ⟨q.1, 0, none⟩ (.string n.path)).setCell ⟨q.1, 1, none⟩ (.int .i64 n.kind)).setCell ⟨q.1, 2, none⟩ (.int .i64 n.mode)).setCell ⟨q.1, 3, none⟩ (.int .i64 n.time)).setCell ⟨q.1, 4, none⟩ (.string n.data)) B LL A (updV V R fun v => { v with s := n }) ∧
    Fr A w (((((w.setCell ⟨q.1, 0, none⟩ (.string n.path)).setCell ⟨q.1, 1, none⟩ (.int .i64 n.kind)).setCell ⟨q.1, 2, none⟩ (.int .i64 n.mode)).setCell ⟨q.1, 3, none⟩ (.int .i64 n.time)).setCell ⟨q.1, 4, none⟩ (.string n.data)) := by
  have h0 := h.cell R q hR
  obtain ⟨r1, s1⟩ := set_step w q.1 0 (.string n.path) h0
  generalize w.setCell ⟨q.1, 0, none⟩ (.string n.path) = w1 at r1 s1 ⊢
  clear h0
  have h0 := r1
  clear r1
  obtain ⟨r2, s2⟩ := set_step w1 q.1 1 (.int .i64 n.kind) h0
  generalize w1.setCell ⟨q.1, 1, none⟩ (.int .i64 n.kind) = w2 at r2 s2 ⊢
  clear h0
  have h0 := r2
  clear r2
  have s2 := s1.trans s2
  obtain ⟨r3, s3⟩ := set_step w2 q.1 2 (.int .i64 n.mode) h0
  generalize w2.setCell ⟨q.1, 2, none⟩ (.int .i64 n.mode) = w3 at r3 s3 ⊢
  clear h0
  have h0 := r3
  clear r3
  have s3 := s2.trans s3
  obtain ⟨r4, s4⟩ := set_step w3 q.1 3 (.int .i64 n.time) h0
  generalize w3.setCell ⟨q.1, 3, none⟩ (.int .i64 n.time) = w4 at r4 s4 ⊢
  clear h0
  have h0 := r4
  clear r4
  have s4 := s3.trans s4
  obtain ⟨r5, s5⟩ := set_step w4 q.1 4 (.string n.data) h0
  generalize w4.setCell ⟨q.1, 4, none⟩ (.string n.data) = w5 at r5 s5 ⊢
  clear h0
  have h0 := r5
  clear r5
  have s5 := s4.trans s5
  rw [cells_s] at h0
  exact ⟨h.store hR (fun v => { v with s := n }) h0 s5.oth, Fr.store hR s5.os s5.tape s5.output s5.size s5.oth⟩
/-- The receiver's node laid at its place, and is something left. -/
theorem PT.nodeD {w : World} {B : Nat} {LL : Bd} {A : Where} {V : Ns → Pl} (h : PT w B LL A V) {R : Ns} {q : Nat × Nat} (hR : A R = some q) (n : Nd) (b : Bool) :
    PT ((((((w.setCell ⟨q.1, 5, none⟩ (.string n.path)).setCell ⟨q.1, 6, none⟩ (.int .i64 n.kind)).setCell ⟨q.1, 7, none⟩ (.int .i64 n.mode)).setCell ⟨q.1, 8, none⟩ (.int .i64 n.time)).setCell ⟨q.1, 9, none⟩ (.string n.data)).setCell ⟨q.1, 11, none⟩ (.bool b)) B LL A (updV V R fun v => { v with d := n, left := b }) ∧
    Fr A w ((((((w.setCell ⟨q.1, 5, none⟩ (.string n.path)).setCell ⟨q.1, 6, none⟩ (.int .i64 n.kind)).setCell ⟨q.1, 7, none⟩ (.int .i64 n.mode)).setCell ⟨q.1, 8, none⟩ (.int .i64 n.time)).setCell ⟨q.1, 9, none⟩ (.string n.data)).setCell ⟨q.1, 11, none⟩ (.bool b)) := by
  have h0 := h.cell R q hR
  obtain ⟨r1, s1⟩ := set_step w q.1 5 (.string n.path) h0
  generalize w.setCell ⟨q.1, 5, none⟩ (.string n.path) = w1 at r1 s1 ⊢
  clear h0
  have h0 := r1
  clear r1
  obtain ⟨r2, s2⟩ := set_step w1 q.1 6 (.int .i64 n.kind) h0
  generalize w1.setCell ⟨q.1, 6, none⟩ (.int .i64 n.kind) = w2 at r2 s2 ⊢
  clear h0
  have h0 := r2
  clear r2
  have s2 := s1.trans s2
  obtain ⟨r3, s3⟩ := set_step w2 q.1 7 (.int .i64 n.mode) h0
  generalize w2.setCell ⟨q.1, 7, none⟩ (.int .i64 n.mode) = w3 at r3 s3 ⊢
  clear h0
  have h0 := r3
  clear r3
  have s3 := s2.trans s3
  obtain ⟨r4, s4⟩ := set_step w3 q.1 8 (.int .i64 n.time) h0
  generalize w3.setCell ⟨q.1, 8, none⟩ (.int .i64 n.time) = w4 at r4 s4 ⊢
  clear h0
  have h0 := r4
  clear r4
  have s4 := s3.trans s4
  obtain ⟨r5, s5⟩ := set_step w4 q.1 9 (.string n.data) h0
  generalize w4.setCell ⟨q.1, 9, none⟩ (.string n.data) = w5 at r5 s5 ⊢
  clear h0
  have h0 := r5
  clear r5
  have s5 := s4.trans s5
  obtain ⟨r6, s6⟩ := set_step w5 q.1 11 (.bool b) h0
  generalize w5.setCell ⟨q.1, 11, none⟩ (.bool b) = w6 at r6 s6 ⊢
  clear h0
  have h0 := r6
  clear r6
  have s6 := s5.trans s6
  rw [cells_d] at h0
  exact ⟨h.store hR (fun v => { v with d := n, left := b }) h0 s6.oth, Fr.store hR s6.os s6.tape s6.output s6.size s6.oth⟩
theorem PT.guard {w : World} {B : Nat} {LL : Bd} {A : Where} {V : Ns → Pl} (h : PT w B LL A V) {R : Ns} {q : Nat × Nat} (hR : A R = some q) :
    PT ((w.setCell ⟨q.1, 10, none⟩ (.bool true)).setCell ⟨q.1, 11, none⟩ (.bool true)) B LL A (updV V R fun v => { v with shut := true, left := true }) ∧
    Fr A w ((w.setCell ⟨q.1, 10, none⟩ (.bool true)).setCell ⟨q.1, 11, none⟩ (.bool true)) := by
  have h0 := h.cell R q hR
  obtain ⟨r1, s1⟩ := set_step w q.1 10 (.bool true) h0
  generalize w.setCell ⟨q.1, 10, none⟩ (.bool true) = w1 at r1 s1 ⊢
  clear h0
  have h0 := r1
  clear r1
  obtain ⟨r2, s2⟩ := set_step w1 q.1 11 (.bool true) h0
  generalize w1.setCell ⟨q.1, 11, none⟩ (.bool true) = w2 at r2 s2 ⊢
  clear h0
  have h0 := r2
  clear r2
  have s2 := s1.trans s2
  rw [cells_g] at h0
  exact ⟨h.store hR (fun v => { v with shut := true, left := true }) h0 s2.oth, Fr.store hR s2.os s2.tape s2.output s2.size s2.oth⟩
theorem PT.leave {w : World} {B : Nat} {LL : Bd} {A : Where} {V : Ns → Pl} (h : PT w B LL A V) {R : Ns} {q : Nat × Nat} (hR : A R = some q) :
    PT (w.setCell ⟨q.1, 11, none⟩ (.bool true)) B LL A (updV V R fun v => { v with left := true }) ∧
    Fr A w (w.setCell ⟨q.1, 11, none⟩ (.bool true)) := by
  have h0 := h.cell R q hR
  obtain ⟨r1, s1⟩ := set_step w q.1 11 (.bool true) h0
  generalize w.setCell ⟨q.1, 11, none⟩ (.bool true) = w1 at r1 s1 ⊢
  clear h0
  have h0 := r1
  clear r1
  rw [cells_l] at h0
  exact ⟨h.store hR (fun v => { v with left := true }) h0 s1.oth, Fr.store hR s1.os s1.tape s1.output s1.size s1.oth⟩
/-- A place's cells. -/
theorem PT.at_ {w : World} {B : Nat} {LL : Bd} {A : Where} {V : Ns → Pl} (h : PT w B LL A V) {R : Ns} {q : Nat × Nat} (hR : A R = some q) (j : Nat) (v : Value) (hv : ((V R).cells q.2)[j]? = some v) : w.cell? ⟨q.1, j, none⟩ = some v ∧ w.frozen? ⟨q.1, j, none⟩ = false :=
  ⟨(cell_of_row _ _ _ _ _ _ (h.cell R q hR)).trans hv, frozen_of_row _ _ _ _ _ (h.cell R q hR)⟩
end Go.Proofs.YteoafohebgfjdaaGreatDoor
/-
  What stands at a place when both trees have been laid: plain.
-/
namespace Go.Proofs.YteoafohebgfjdaaGreatDoor
open Go.RowKit Go.Maps
set_option maxRecDepth 100000

theorem foldS_out : ∀ (S : List Nd) (V : Ns → Pl) (P : Ns), (∀ n ∈ S, nmN n ≠ P) → (S.foldl setS V) P = V P
  | [], _, _, _ => rfl
  | n :: S, V, P, h => by
    rw [List.foldl_cons, foldS_out S _ P fun m hm => h m (List.mem_cons_of_mem _ hm)]
    exact updV_other _ _ _ _ fun e => h n List.mem_cons_self e.symm
theorem foldS_in : ∀ (S : List Nd) (V : Ns → Pl) (n : Nd), (S.Pairwise fun a b => nmN a ≠ nmN b) → n ∈ S → (S.foldl setS V) (nmN n) = { V (nmN n) with s := n }
  | m :: S, V, n, h, hn => by
    obtain ⟨h1, h2⟩ := List.pairwise_cons.1 h
    rw [List.foldl_cons]
    rcases List.mem_cons.1 hn with rfl | hn
    · rw [foldS_out S _ _ fun k hk e => h1 k hk e.symm]
      exact updV_same _ _ _
    · rw [foldS_in S _ n h2 hn]
      unfold setS
      rw [updV_other _ _ _ _ fun e => h1 n hn e.symm]
theorem foldD_out (del : Bool) : ∀ (S : List Nd) (V : Ns → Pl) (P : Ns), (∀ n ∈ S, nmN n ≠ P) → (S.foldl (setD del) V) P = V P
  | [], _, _, _ => rfl
  | n :: S, V, P, h => by
    rw [List.foldl_cons, foldD_out del S _ P fun m hm => h m (List.mem_cons_of_mem _ hm)]
    exact updV_other _ _ _ _ fun e => h n List.mem_cons_self e.symm
theorem foldD_in (del : Bool) : ∀ (S : List Nd) (V : Ns → Pl) (n : Nd), (S.Pairwise fun a b => nmN a ≠ nmN b) → n ∈ S → (S.foldl (setD del) V) (nmN n) = { V (nmN n) with d := n, left := !del }
  | m :: S, V, n, h, hn => by
    obtain ⟨h1, h2⟩ := List.pairwise_cons.1 h
    rw [List.foldl_cons]
    rcases List.mem_cons.1 hn with rfl | hn
    · rw [foldD_out del S _ _ fun k hk e => h1 k hk e.symm]
      exact updV_same _ _ _
    · rw [foldD_in del S _ n h2 hn]
      unfold setD
      rw [updV_other _ _ _ _ fun e => h1 n hn e.symm]
theorem foldL_at : ∀ (U : List (List UInt8)) (V : Ns → Pl) (P : Ns), ((U.foldl setL V) P).s = (V P).s ∧ ((U.foldl setL V) P).d = (V P).d ∧ ((U.foldl setL V) P).shut = (V P).shut ∧ (((U.foldl setL V) P).left = true ↔ (V P).left = true ∨ ∃ u ∈ U, namesL u = P)
  | [], V, P => ⟨rfl, rfl, rfl, by simp⟩
  | u :: U, V, P => by
    obtain ⟨h1, h2, h3, h4⟩ := foldL_at U (setL V u) P
    rw [List.foldl_cons]
    by_cases e : P = namesL u
    · subst e
      have es : setL V u (namesL u) = { V (namesL u) with left := true } := updV_same _ _ _
      rw [es] at h1 h2 h3 h4
      exact ⟨h1, h2, h3, by rw [h4]; simp⟩
    · have es : setL V u P = V P := updV_other _ _ _ _ e
      rw [es] at h1 h2 h3 h4
      refine ⟨h1, h2, h3, ?_⟩
      rw [h4]
      constructor
      · rintro (h | ⟨x, hx, hp⟩)
        · exact .inl h
        · exact .inr ⟨x, List.mem_cons_of_mem _ hx, hp⟩
      · rintro (h | ⟨x, hx, hp⟩)
        · exact .inl h
        · rcases List.mem_cons.1 hx with rfl | hx
          · exact absurd hp.symm e
          · exact .inr ⟨x, hx, hp⟩
/-- A guarded node's path, or one that it is under. -/
def guards (g : Nd) (P : Ns) : Prop := nmN g = P ∨ ∃ u ∈ upsL (toL g.path), namesL u = P
theorem foldG_at : ∀ (G : List Nd) (V : Ns → Pl) (P : Ns), ((G.foldl setG V) P).s = (V P).s ∧ ((G.foldl setG V) P).d = (V P).d ∧ (((G.foldl setG V) P).shut = true ↔ (V P).shut = true ∨ ∃ g ∈ G, nmN g = P) ∧ (((G.foldl setG V) P).left = true ↔ (V P).left = true ∨ ∃ g ∈ G, guards g P)
  | [], V, P => ⟨rfl, rfl, by simp, by simp⟩
  | g :: G, V, P => by
    obtain ⟨h1, h2, h3, h4⟩ := foldG_at G (setG V g) P
    obtain ⟨k1, k2, k3, k4⟩ := foldL_at (upsL (toL g.path)) (updV V (nmN g) fun v => { v with shut := true, left := true }) P
    rw [List.foldl_cons]
    change ((setG V g) P).s = _ at k1
    change ((setG V g) P).d = _ at k2
    change ((setG V g) P).shut = _ at k3
    change ((setG V g) P).left = true ↔ _ at k4
    rw [k1] at h1
    rw [k2] at h2
    rw [k3] at h3
    rw [k4] at h4
    by_cases e : P = nmN g
    · subst e
      rw [updV_same] at h1 h2 h3 h4
      refine ⟨h1, h2, ?_, ?_⟩
      · rw [h3]; simp
      · rw [h4]
        simp only [true_or, or_true, List.mem_cons, exists_eq_or_imp, guards]
    · rw [updV_other _ _ _ _ e] at h1 h2 h3 h4
      refine ⟨h1, h2, ?_, ?_⟩
      · rw [h3]
        simp only [List.mem_cons, exists_eq_or_imp]
        constructor
        · rintro (h | h)
          · exact .inl h
          · exact .inr (.inr h)
        · rintro (h | h | h)
          · exact .inl h
          · exact absurd h.symm e
          · exact .inr h
      · rw [h4]
        simp only [List.mem_cons, exists_eq_or_imp]
        constructor
        · rintro ((h | h) | h)
          · exact .inl h
          · exact .inr (.inl (.inr h))
          · exact .inr (.inr h)
        · rintro (h | (h | h) | h)
          · exact .inl (.inl h)
          · exact absurd h.symm e
          · exact .inl (.inr h)
          · exact .inr h
/-- What is laid, all at once. -/
structure LaidAt (S D G : List Nd) (del : Bool) (V : Ns → Pl) : Prop where
  sIn : ∀ n ∈ S, (V (nmN n)).s = n
  sOut : ∀ P, (∀ n ∈ S, nmN n ≠ P) → (V P).s = zeroNd
  dIn : ∀ n ∈ D, (V (nmN n)).d = n
  dOut : ∀ P, (∀ n ∈ D, nmN n ≠ P) → (V P).d = zeroNd
  shut : ∀ P, (V P).shut = true ↔ ∃ g ∈ G, nmN g = P
  left : ∀ P, (V P).left = true ↔ (del = false ∧ ∃ n ∈ D, nmN n = P) ∨ ∃ g ∈ G, guards g P
theorem layV_at {S D : List Nd} (G : List Nd) (del : Bool) (hS : S.Pairwise fun a b => nmN a ≠ nmN b) (hD : D.Pairwise fun a b => nmN a ≠ nmN b) : LaidAt S D G del (layV S D G del) := by
  have one : ∀ P, ((D.foldl (setD del) (S.foldl setS fun _ => zeroPl)) P).s = ((S.foldl setS fun _ => zeroPl) P).s ∧ ((D.foldl (setD del) (S.foldl setS fun _ => zeroPl)) P).shut = false := fun P => by
    by_cases h : ∀ n ∈ D, nmN n ≠ P
    · rw [foldD_out del D _ P h]
      refine ⟨rfl, ?_⟩
      by_cases k : ∀ n ∈ S, nmN n ≠ P
      · rw [foldS_out S _ P k]; rfl
      · obtain ⟨n, hn, rfl⟩ : ∃ n ∈ S, nmN n = P := by simpa using k
        rw [foldS_in S _ n hS hn]; rfl
    · obtain ⟨n, hn, rfl⟩ : ∃ n ∈ D, nmN n = P := by simpa using h
      rw [foldD_in del D _ n hD hn]
      refine ⟨rfl, ?_⟩
      show ((S.foldl setS fun _ => zeroPl) (nmN n)).shut = false
      by_cases k : ∀ m ∈ S, nmN m ≠ nmN n
      · rw [foldS_out S _ _ k]; rfl
      · obtain ⟨m, hm, e⟩ : ∃ m ∈ S, nmN m = nmN n := by simpa using k
        rw [← e, foldS_in S _ m hS hm]; rfl
  have two : ∀ P, (((S.foldl setS fun _ => zeroPl) P).d = zeroNd) ∧ ((S.foldl setS fun _ => zeroPl) P).left = false := fun P => by
    by_cases k : ∀ n ∈ S, nmN n ≠ P
    · rw [foldS_out S _ P k]; exact ⟨rfl, rfl⟩
    · obtain ⟨n, hn, rfl⟩ : ∃ n ∈ S, nmN n = P := by simpa using k
      rw [foldS_in S _ n hS hn]; exact ⟨rfl, rfl⟩
  refine ⟨fun n hn => ?_, fun P h => ?_, fun n hn => ?_, fun P h => ?_, fun P => ?_, fun P => ?_⟩
  · exact (foldG_at G _ _).1.trans ((one _).1.trans (by rw [foldS_in S _ n hS hn]))
  · exact (foldG_at G _ _).1.trans ((one _).1.trans (by rw [foldS_out S _ P h]; rfl))
  · exact (foldG_at G _ _).2.1.trans (by rw [foldD_in del D _ n hD hn])
  · exact (foldG_at G _ _).2.1.trans (by rw [foldD_out del D _ P h]; exact (two P).1)
  · exact (foldG_at G _ _).2.2.1.trans (by rw [(one P).2]; simp)
  · refine (foldG_at G _ _).2.2.2.trans (or_congr_left ?_)
    by_cases h : ∀ n ∈ D, nmN n ≠ P
    · rw [foldD_out del D _ P h, (two P).2]
      constructor
      · intro e; cases e
      · rintro ⟨_, n, hn, e⟩; exact absurd e (h n hn)
    · obtain ⟨n, hn, rfl⟩ : ∃ n ∈ D, nmN n = P := by simpa using h
      rw [foldD_in del D _ n hD hn]
      show (!del) = true ↔ _
      constructor
      · intro e; exact ⟨by simpa using e, n, hn, rfl⟩
      · rintro ⟨e, _⟩; rw [e]; rfl
end Go.Proofs.YteoafohebgfjdaaGreatDoor
/-
  The reference's Within: those that lie under a path, or those that do not.
-/
namespace Go.Proofs.YteoafohebgfjdaaGreatDoor
open Go.RowKit
set_option maxRecDepth 100000

/-- Those that lie under a path (or those that do not). -/
def sideL (p : ByteArray) (b : Bool) (l : List Nd) : List Nd := l.filter (fun n => withinB (toL n.path) (toL p) == b)
theorem side_drop (p : ByteArray) (b : Bool) (l : List Nd) (i : Nat) (n : Nd) (h : l[i]? = some n) : sideL p b (l.drop i) = (if (withinB (toL n.path) (toL p) == b) = true then [n] else []) ++ sideL p b (l.drop (i + 1)) := by
  obtain ⟨hi, rfl⟩ := List.getElem?_eq_some_iff.1 h
  rw [List.drop_eq_getElem_cons hi]
  unfold sideL
  rw [List.filter_cons]
  cases (withinB (toL (l[i]).path) (toL p) == b) <;> rfl

set_option maxHeartbeats 32000000 in
theorem refSide_any (A : Option Addr) (l : List Nd) (c : Nat) (p : ByteArray) (b : Bool) (w : World) (hA : RdN w w.heap.size A l) (hf : FewN l) (hl : (l.length : Int) ≤ 1000) (hp : (p.size : Int) ≤ 1000000) :
    Calls Tryz.prog 14 #[.slice A l.length c, .string p, .bool b] w fun e w' => ∃ v, e = .returned v ∧ NI w v (sideL p b l) w' := by
  obtain ⟨i0, hi, hz0, hz1, hz2⟩ := info_parts info_node
  have HF := hide hf
  have HA := hide hA
  obtain ⟨V, hV⟩ : ∃ V, V = sideL p b l := ⟨_, rfl⟩
  rw [← hV]
  have HQ0 := hide (show [] ++ sideL p b (l.drop 0) = V by rw [hV]; rfl)
  clear hA hf hV
  go_enter Tryz.func14, Tryz.ntmps14
  go_wp2_with fail
  go_loopg [7, 8] l.length (fun gk ov iv wr => ∃ (j : Nat) (E : Option Addr) (f : Nat) (o : List Nd), ov = .slice E o.length f ∧ iv = .int .i64 j ∧ j + gk = l.length ∧ o.length ≤ j ∧ Hid (NI w (.slice E o.length f) o wr) ∧ Hid (o ++ sideL p b (l.drop j) = V))
  case atStart => exact ⟨0, none, 0, [], rfl, rfl, by omega, by simp, hide ⟨Below.refl _ _, World.ownsRow_nil _ _ _ _⟩, HQ0⟩
  case round =>
    obtain ⟨j, E, f, o, rfl, rfl, hjg, hoj, HO, HQ⟩ := hrel
    clear HQ0
    cases gk with
    | zero =>
      have hE : V = o := by rw [← HQ.out, List.drop_of_length_le (by omega)]; simp [sideL]
      have HFin := hide (show NI w (.slice E o.length f) V wr by rw [hE]; exact HO.out)
      obtain rfl : j = l.length := by omega
      clear hE HQ HO
      go_wp2_with fail
      exact bodyPost_ret (results_tmp rfl _ _ _) rfl ⟨.slice E o.length f, rfl, HFin.out⟩
    | succ g1 =>
      have hji : (j : Int) < l.length := by omega
      have hj0 : (0 : Int) ≤ (j : Int) := by omega
      obtain ⟨n, hn⟩ : ∃ n, l[j]? = some n := ⟨_, List.getElem?_eq_getElem (by omega)⟩
      obtain ⟨ad, rfl, hlt, hnd⟩ := (HA.out.below HO.out.below (Nat.le_refl _)) j n hn
      have hltx : ad.block < wr.heap.size := Nat.lt_of_lt_of_le hlt HO.out.below.size
      have HND := hide (fun W (hb : Below wr.heap.size wr W) => hnd.below hb (by rw [add_block]; exact hltx))
      have hfew := HF.out j n hn
      have hd := HQ.out
      rw [side_drop p b l j n hn] at hd
      have hjw : IntKind.i64.wrap ((j : Int) + 1) = ((j + 1 : Nat) : Int) := by rw [IntWalk.i64_in _ (by omega)]; rfl
      have HW := hide (fun W => refWithin_any n.path p W hfew.1 hp)
      generalize withinB (toL n.path) (toL p) = u at HW hd
      obtain ⟨c0, c1, c2, c3, c4⟩ := hnd
      obtain ⟨path, kind, mode, time, data⟩ := n
      simp only at c0 c1 c2 c3 c4 HW
      clear HQ hn hfew hlt
      cases hub : (u == b) with
      | false =>
        rw [hub, if_neg (by decide), List.nil_append] at hd
        have HD := hide hd
        clear hd
        go_wp2_with (go_at_call 26; refine (HW.out _).mono ?_; rintro e w3 ⟨rfl, hb3⟩)
        have HO3 := hide (HO.out.step hb3)
        go_roundg g1
        case rel => exact ⟨j + 1, E, f, o, rfl, rfl, by omega, by omega, HO3, HD⟩
        case measure => omega
      | true =>
        rw [hub, if_pos rfl, ← List.append_assoc] at hd
        have HD := hide hd
        clear hd
        go_upto_if 23 with (go_at_call 26; refine (HW.out _).mono ?_; rintro e w3 ⟨rfl, hb3⟩)
        obtain ⟨k0, k1, k2, k3, k4⟩ := HND.out w3 hb3
        simp only at k0 k1 k2 k3 k4
        have hN3 := HO.out.step hb3
        have hb3' := (Below.refl _ w3).alloc (Nat.le_refl _) (.cells (Nd.cells ⟨path, kind, mode, time, data⟩) 36)
        have hO3 := hN3.own
        have hRn := RdN.one w3 ⟨path, kind, mode, time, data⟩ 36
        have hB3 := hN3.below.alloc hN3.below.size (.cells (Nd.cells ⟨path, kind, mode, time, data⟩) 36)
        have hsz := hB3.size
        clear hb3 hN3 hb3' c0 c1 c2 c3 c4
        go_wp2_with (at_builtin; go_loud (refine wpList_append_nodes rfl _ _ 22 rfl w.heap.size 36 i0 Tryz.underlying22 hi hz0 hz1 hz2 _ _ _ rfl (hO3.alloc _) (some ⟨w3.heap.size, 0, none⟩) _ 1 _ [⟨path, kind, mode, time, data⟩] rfl rfl hRn (by unfold maxLen; omega) (by omega) hsz ?_))
        intro v5 w5 hO5 hg5
        have hB5 := hB3.grown hg5 hB3.size (fun r e => (hO3.lt r e).1)
        obtain ⟨D, g, rfl⟩ := ownsRow_slice hO5
        have hlen6 : (o ++ [(⟨path, kind, mode, time, data⟩ : Nd)]).length = o.length + 1 := by simp
        have HO6 := hide (show NI w (.slice D (o.length + 1) g) (o ++ [⟨path, kind, mode, time, data⟩]) w5 from ⟨hB5, by rw [cellsN_app, hlen6]; exact hO5⟩)
        clear hO3 hRn hB3 hO5 hg5 hB5 hsz k0 k1 k2 k3 k4
        go_wp2_with fail
        go_roundg g1
        case rel => exact ⟨j + 1, D, g, o ++ [⟨path, kind, mode, time, data⟩], by rw [hlen6], rfl, by omega, by rw [hlen6]; omega, by rw [hlen6]; exact HO6, HD⟩
        case measure => omega
end Go.Proofs.YteoafohebgfjdaaGreatDoor
