/-
  Texts that belong together: MapIs, MiPlace, MiAdd.
-/
import Derived.Test.YteoafohebgfjdaaGreatDoorAutoBytes
import Derived.Maps.OwnSet
import Derived.Test.YteoafohebgfjdaaGreatDoorAutoNodesOwn
/-
  Maps from strings, of any values: what lies at each key, and how many keys there are at most (a list that has them all).
-/
namespace Go.Proofs.YteoafohebgfjdaaGreatDoor
open Go.RowKit Go.Maps
set_option maxRecDepth 100000

/-- A map's element, read as itself. -/
def rawElem (v : Value) : Option (DataW Value × List MemPlace) := some (.held v, [])
/-- A key. -/
def keyS (s : ByteArray) : Lit := .string s.data.toList
theorem keyS_inj {a b : ByteArray} (h : keyS a = keyS b) : a = b := by
  injection h with h
  exact ByteArray.ext (Array.toList_inj.1 h)
theorem keyS_lit (s : ByteArray) : WideAt.IsKeyLit (keyS s) := show WideAt.IsKeyLit (.string _) from trivial
/-- What lies at each key: f; L has all keys. -/
def setF (f : ByteArray → Option Value) (s : ByteArray) (v : Value) : ByteArray → Option Value := fun q => if q = s then some v else f q
def cntF (L : List ByteArray) (f : ByteArray → Option Value) : Nat := (L.filter fun p => (f p).isSome).length
/-- Block b is a map that has f. -/
def MapIs (w : World) (b : Nat) (L : List ByteArray) (f : ByteArray → Option Value) : Prop :=
  ∃ D, w.ownsMap Tryz.prog 9 rawElem b (Maps.size D) D ∧ (∀ s : ByteArray, Maps.has D (keyS s) = (f s).isSome ∧ ∀ z, D.atKey (keyS s) (.held z) = .held ((f s).getD z)) ∧ Maps.size D ≤ cntF L f

theorem cntF_le (L : List ByteArray) (f : ByteArray → Option Value) : cntF L f ≤ L.length := List.length_filter_le _ _
theorem cntF_set (f : ByteArray → Option Value) (s : ByteArray) (v : Value) : ∀ L : List ByteArray, cntF L f ≤ cntF L (setF f s v) ∧ (s ∈ L → f s = none → cntF L f + 1 ≤ cntF L (setF f s v))
  | [] => ⟨Nat.le_refl _, fun h => by cases h⟩
  | x :: L => by
    obtain ⟨h1, h2⟩ := cntF_set f s v L
    have e : ∀ g, cntF (x :: L) g = (if (g x).isSome then 1 else 0) + cntF L g := fun g => by
      unfold cntF
      rw [List.filter_cons]
      split <;> simp [Nat.add_comm]
    rw [e, e]
    by_cases hx : x = s
    · subst hx
      have es : setF f x v x = some v := by simp [setF]
      rw [es]
      refine ⟨?_, fun _ hf => ?_⟩
      · split <;> simp <;> omega
      · rw [hf]; simp; omega
    · have es : setF f s v x = f x := by simp [setF, hx]
      rw [es]
      refine ⟨by omega, fun hm hf => ?_⟩
      have := h2 (by simpa [Ne.symm hx] using hm) hf
      omega

theorem MapIs.lt {w : World} {b : Nat} {L : List ByteArray} {f : ByteArray → Option Value} (h : MapIs w b L f) : b < w.heap.size := by
  obtain ⟨D, h, _⟩ := h; exact h.lt
theorem MapIs.kept {w w' : World} {b : Nat} {L : List ByteArray} {f : ByteArray → Option Value} {row : Option Nat} (h : MapIs w b L f) (hg : w.grownBy w' row) (hne : some b ≠ row) : MapIs w' b L f := by
  obtain ⟨D, h, r⟩ := h; exact ⟨D, h.kept hg hne, r⟩
theorem MapIs.at {w : World} {b : Nat} {L : List ByteArray} {f : ByteArray → Option Value} (h : MapIs w b L f) : ∃ es clock, w.heap[b]? = some (.map es clock) := by
  obtain ⟨D, ⟨es, clock, hb, _⟩, _⟩ := h; exact ⟨es, clock, hb⟩
/-- No cell lies in a map's block. -/
theorem MapIs.no_cell {w : World} {b : Nat} {L : List ByteArray} {f : ByteArray → Option Value} (h : MapIs w b L f) {a : Addr} {v : Value} (ha : w.cell? a = some v) : a.block ≠ b := by
  obtain ⟨es, clock, hb⟩ := h.at
  rintro rfl
  unfold World.cell? at ha
  rw [hb] at ha
  cases ha
theorem MapIs.made (w : World) (L : List ByteArray) : MapIs (w.alloc (.map #[] 0)) w.heap.size L fun _ => none :=
  ⟨.map [], World.ownsMap_made _ _ _ _, fun _ => ⟨rfl, fun _ => rfl⟩, Nat.zero_le _⟩
/-- m[s] -/
theorem MapIs.look {w : World} {b : Nat} {L : List ByteArray} {f : ByteArray → Option Value} (h : MapIs w b L f) {t e : TypeId} (ht : Tryz.prog.underlying t = some (.map 9 e)) {z : Value} (hz : (zeroValue e).run Tryz.prog w = .ok z w) (s : ByteArray) (hs : s.size ≤ maxLen) :
    (Instr.lookup t (.map (some b)) (.string s) false).run Tryz.prog w = .ok ((f s).getD z) w := by
  obtain ⟨D, h, hf, _⟩ := h
  obtain ⟨v, ps, hrun, hv⟩ := h.lookup (string_keyed Tryz.underlying9) ht hz (zd := .held z) (zp := []) rfl (WideMaps.keyOf_string_mk (P := Tryz.prog) Tryz.underlying9 hs)
  rw [show (Lit.string s.data.toList) = keyS s from rfl, (hf s).2 z] at hv
  simp only [rawElem, Option.some.injEq, Prod.mk.injEq, DataW.held.injEq] at hv
  rw [hrun, hv.1]
/-- v, ok := m[s] -/
theorem MapIs.look_ok {w : World} {b : Nat} {L : List ByteArray} {f : ByteArray → Option Value} (h : MapIs w b L f) {t e : TypeId} (ht : Tryz.prog.underlying t = some (.map 9 e)) {z : Value} (hz : (zeroValue e).run Tryz.prog w = .ok z w) (s : ByteArray) (hs : s.size ≤ maxLen) :
    (Instr.lookup t (.map (some b)) (.string s) true).run Tryz.prog w = .ok (.tuple #[(f s).getD z, .bool (f s).isSome]) w := by
  obtain ⟨D, h, hf, _⟩ := h
  obtain ⟨v, ps, hrun, hv⟩ := h.look_ok (string_keyed Tryz.underlying9) ht hz (zd := .held z) (zp := []) rfl (WideMaps.keyOf_string_mk (P := Tryz.prog) Tryz.underlying9 hs)
  rw [show (Lit.string s.data.toList) = keyS s from rfl] at hv hrun
  rw [(hf s).2 z] at hv
  rw [(hf s).1] at hrun
  simp only [rawElem, Option.some.injEq, Prod.mk.injEq, DataW.held.injEq] at hv
  rw [hrun, hv.1]
/-- m[s] = v -/
theorem MapIs.put {w : World} {b : Nat} {L : List ByteArray} {f : ByteArray → Option Value} (h : MapIs w b L f) {t e : TypeId} (ht : Tryz.prog.underlying t = some (.map 9 e)) (s : ByteArray) (hs : s.size ≤ maxLen) (hL : s ∈ L) (hl : L.length < maxLen) (v : Value) :
    ∃ w', (Instr.mapUpdate t (.map (some b)) (.string s) v).run Tryz.prog w = .ok () w' ∧ MapIs w' b L (setF f s v) ∧ w.grownBy w' (some b) := by
  obtain ⟨D, h, hf, hc⟩ := h
  have hT := h.tidy (string_keyed Tryz.underlying9)
  obtain ⟨w', hrun, h1, hg⟩ := h.update (string_keyed Tryz.underlying9) ht (Nat.lt_of_le_of_lt (Nat.le_trans hc (cntF_le _ _)) hl) (d := .held v) (ps := []) (WideMaps.keyOf_string_mk (P := Tryz.prog) Tryz.underlying9 hs) rfl
  rw [show (Lit.string s.data.toList) = keyS s from rfl] at h1
  have hsz := size_put (k := keyS s) hT (DataW.held v)
  refine ⟨w', hrun, ⟨D.put (keyS s) (.held v), ?_, fun q => ?_, ?_⟩, hg⟩
  · obtain ⟨es, clock, hb, F, hle, hD⟩ := h1
    refine ⟨es, clock, hb, F, ?_, hD⟩
    rw [hD]
    simp [Maps.size, length_sorted]
  · by_cases hq : q = s
    · subst hq
      refine ⟨by rw [has_put_same hT.isMap (keyS_lit _)]; simp [setF], fun z => by rw [atKey_put_same hT.isMap (keyS_lit _)]; simp [setF]⟩
    · have hk : keyS q ≠ keyS s := fun e => hq (keyS_inj e)
      have e : setF f s v q = f q := by simp [setF, hq]
      rw [e]
      exact ⟨by rw [has_put_other hk]; exact (hf q).1, fun z => by rw [atKey_put_other hk]; exact (hf q).2 z⟩
  · obtain ⟨c1, c2⟩ := cntF_set f s v L
    rw [hsz, (hf s).1]
    cases hfs : f s with
    | none =>
      have := c2 hL hfs
      simp; omega
    | some u => simp; omega
end Go.Proofs.YteoafohebgfjdaaGreatDoor
/-
  The places of both trees (mirror.place), flat: by the names of a path where its place and its place's map lie, and what stands there.
-/
namespace Go.Proofs.YteoafohebgfjdaaGreatDoor
open Go.RowKit Go.Maps
set_option maxRecDepth 100000

/-- Names. -/
abbrev Ns := List (List UInt8)
/-- What stands at a place. -/
structure Pl where
  s : Nd
  d : Nd
  shut : Bool
  left : Bool
def zeroPl : Pl := ⟨zeroNd, zeroNd, false, false⟩
def Pl.cells (v : Pl) (m : Nat) : Array Value :=
  #[.string v.s.path, .int .i64 v.s.kind, .int .i64 v.s.mode, .int .i64 v.s.time, .string v.s.data, .string v.d.path, .int .i64 v.d.kind, .int .i64 v.d.mode, .int .i64 v.d.time, .string v.d.data, .bool v.shut, .bool v.left, .map (some m)]
/-- Which names and which paths may come up. -/
structure Bd where
  names : List ByteArray
  paths : List Ns
/-- Where a path's place and its map lie. -/
abbrev Where := Ns → Option (Nat × Nat)
def kidF (A : Where) (P : Ns) : ByteArray → Option Value := fun x => (A (P ++ [toL x])).map fun q => .pointer (some ⟨q.1, 0, none⟩)
/-- The places' own blocks. -/
def Own (A : Where) (k : Nat) : Prop := ∃ P q, A P = some q ∧ (k = q.1 ∨ k = q.2)
structure PT (w : World) (B : Nat) (LL : Bd) (A : Where) (V : Ns → Pl) : Prop where
  low : ∀ P q, A P = some q → B ≤ q.1 ∧ B ≤ q.2
  cell : ∀ P q, A P = some q → w.heap[q.1]? = some (.cells ((V P).cells q.2) 71 (0, 0))
  map : ∀ P q, A P = some q → MapIs w q.2 LL.names (kidF A P)
  inj1 : ∀ P Q q r, A P = some q → A Q = some r → q.1 = r.1 → P = Q
  inj2 : ∀ P Q q r, A P = some q → A Q = some r → q.2 = r.2 → P = Q
  up : ∀ P x, A (P ++ [x]) ≠ none → A P ≠ none
  zero : ∀ P, A P = none → V P = zeroPl
  dom : ∀ P, A P ≠ none → P ∈ LL.paths
theorem PT.lt {w : World} {B : Nat} {LL : Bd} {A : Where} {V : Ns → Pl} (h : PT w B LL A V) {k : Nat} (hk : Own A k) : B ≤ k ∧ k < w.heap.size := by
  obtain ⟨P, q, hq, e⟩ := hk
  rcases e with rfl | rfl
  · exact ⟨(h.low P q hq).1, (Array.getElem?_eq_some_iff.1 (h.cell P q hq)).1⟩
  · exact ⟨(h.low P q hq).2, (h.map P q hq).lt⟩
theorem MapIs.same {w w' : World} {b : Nat} {L : List ByteArray} {f : ByteArray → Option Value} (h : MapIs w b L f) (e : w'.heap[b]? = w.heap[b]?) : MapIs w' b L f := by
  obtain ⟨D, ⟨es, clock, hb, r⟩, s⟩ := h
  exact ⟨D, ⟨es, clock, e.trans hb, r⟩, s⟩
theorem PT.same {w w' : World} {B : Nat} {LL : Bd} {A : Where} {V : Ns → Pl} (h : PT w B LL A V) (hs : ∀ k, Own A k → w'.heap[k]? = w.heap[k]?) : PT w' B LL A V :=
  ⟨h.low, fun P q hq => (hs _ ⟨P, q, hq, .inl rfl⟩).trans (h.cell P q hq), fun P q hq => (h.map P q hq).same (hs _ ⟨P, q, hq, .inr rfl⟩), h.inj1, h.inj2, h.up, h.zero, h.dom⟩
theorem PT.step {w w' : World} {B : Nat} {LL : Bd} {A : Where} {V : Ns → Pl} (h : PT w B LL A V) (hb : Below w.heap.size w w') : PT w' B LL A V :=
  h.same fun k hk => hb.block k (h.lt hk).2
theorem PT.apart {w : World} {B : Nat} {LL : Bd} {A : Where} {V : Ns → Pl} (h : PT w B LL A V) {P Q : Ns} {q r : Nat × Nat} (hP : A P = some q) (hQ : A Q = some r) : q.1 ≠ r.2 := fun e => by
  obtain ⟨es, clock, hb⟩ := (h.map Q r hQ).at
  rw [← e, h.cell P q hP] at hb
  injection hb with hb
  cases hb
/-- All else is as it was. -/
structure Fr (A : Where) (w w' : World) : Prop where
  os : w'.os = w.os
  tape : w'.tape = w.tape
  output : w'.output = w.output
  size : w.heap.size ≤ w'.heap.size
  block : ∀ k, k < w.heap.size → ¬ Own A k → w'.heap[k]? = w.heap[k]?
/-- More places. -/
structure Ext (A A' : Where) (n : Nat) : Prop where
  keep : ∀ P q, A P = some q → A' P = some q
  new : ∀ P q, A' P = some q → A P = some q ∨ (n ≤ q.1 ∧ n ≤ q.2)
theorem Ext.refl (A : Where) (n : Nat) : Ext A A n := ⟨fun _ _ h => h, fun _ _ h => .inl h⟩
theorem Ext.trans {A A' A'' : Where} {n m : Nat} (h : Ext A A' n) (k : Ext A' A'' m) (hn : n ≤ m) : Ext A A'' n :=
  ⟨fun P q e => k.keep P q (h.keep P q e), fun P q e => by
    rcases k.new P q e with e | ⟨e1, e2⟩
    · exact h.new P q e
    · exact .inr ⟨by omega, by omega⟩⟩
theorem Ext.own {A A' : Where} {n k : Nat} (h : Ext A A' n) (hk : Own A' k) : Own A k ∨ n ≤ k := by
  obtain ⟨P, q, e, hq⟩ := hk
  rcases h.new P q e with e | ⟨e1, e2⟩
  · exact .inl ⟨P, q, e, hq⟩
  · right; omega
theorem Fr.refl (A : Where) (w : World) : Fr A w w := ⟨rfl, rfl, rfl, Nat.le_refl _, fun _ _ _ => rfl⟩
theorem Fr.trans {A A' : Where} {w w' w'' : World} (h : Fr A w w') (k : Fr A' w' w'') (e : Ext A A' w.heap.size) : Fr A w w'' :=
  ⟨k.os.trans h.os, k.tape.trans h.tape, k.output.trans h.output, Nat.le_trans h.size k.size, fun i hi hn => (k.block i (Nat.lt_of_lt_of_le hi h.size) (fun ho => by
    rcases e.own ho with h1 | h1
    · exact hn h1
    · omega)).trans (h.block i hi hn)⟩
theorem Fr.below {A : Where} {w w' w'' : World} (h : Fr A w w') (k : Below w'.heap.size w' w'') : Fr A w w'' :=
  ⟨k.os.trans h.os, k.tape.trans h.tape, k.output.trans h.output, Nat.le_trans h.size k.size, fun i hi hn => (k.block i (Nat.lt_of_lt_of_le hi h.size)).trans (h.block i hi hn)⟩
theorem Fr.of_below {A : Where} {w w' : World} (k : Below w.heap.size w w') : Fr A w w' := (Fr.refl A w).below k
/-- To whoever has no place yet. -/
theorem Fr.back {A : Where} {w w' : World} {B : Nat} (h : Fr A w w') (hl : ∀ k, Own A k → B ≤ k) (hB : B ≤ w.heap.size) : Below B w w' :=
  ⟨h.os, h.tape, h.output, h.size, fun k hk => h.block k (by omega) (fun ho => by have := hl k ho; omega)⟩
set_option maxHeartbeats 4000000 in
theorem empty_any (w : World) :
    Calls Tryz.prog 47 #[] w fun e w' => e = .returned (.pointer (some ⟨w.heap.size + 1, 0, none⟩)) ∧ w' = (w.alloc (.map #[] 0)).alloc (.cells (zeroPl.cells w.heap.size) 71) := by
  have hmm := @run_makeMap Tryz.prog
  go_enter Tryz.func47, Tryz.ntmps47
  go_wp2_with fail
  exact bodyPost_ret (results_tmp rfl _ _ _) rfl ⟨rfl, rfl⟩
end Go.Proofs.YteoafohebgfjdaaGreatDoor
/-
  One more place.
-/
namespace Go.Proofs.YteoafohebgfjdaaGreatDoor
open Go.RowKit Go.Maps
set_option maxRecDepth 100000

def addA (A : Where) (R : Ns) (q : Nat × Nat) : Where := fun S => if S = R then some q else A S
theorem addA_same (A : Where) (R : Ns) (q : Nat × Nat) : addA A R q R = some q := by unfold addA; rw [if_pos rfl]
theorem addA_other (A : Where) (R S : Ns) (q : Nat × Nat) (h : S ≠ R) : addA A R q S = A S := by unfold addA; rw [if_neg h]
theorem snoc_inj {P Q : Ns} {x y : List UInt8} (h : P ++ [x] = Q ++ [y]) : P = Q ∧ x = y := by
  have := List.append_inj' h rfl
  exact ⟨this.1, by simpa using this.2⟩
theorem kidF_other (A : Where) (P Q : Ns) (x : ByteArray) (q : Nat × Nat) (h : Q ≠ P) : kidF (addA A (P ++ [toL x]) q) Q = kidF A Q := by
  funext y
  unfold kidF
  rw [addA_other]
  intro e
  exact h (snoc_inj e).1
theorem kidF_same (A : Where) (P : Ns) (x : ByteArray) (q : Nat × Nat) : kidF (addA A (P ++ [toL x]) q) P = setF (kidF A P) x (.pointer (some ⟨q.1, 0, none⟩)) := by
  funext y
  unfold kidF setF
  by_cases e : y = x
  · subst e
    rw [addA_same, if_pos rfl]
    rfl
  · rw [addA_other, if_neg e]
    intro e2
    exact e (toL_inj (snoc_inj e2).2)
theorem PT.add {w w' : World} {B : Nat} {LL : Bd} {A : Where} {V : Ns → Pl} (h : PT w B LL A V) {P : Ns} {q : Nat × Nat} (hP : A P = some q) (x : ByteArray) (hn : A (P ++ [toL x]) = none) (hd : P ++ [toL x] ∈ LL.paths) (hB : B ≤ w.heap.size)
    (hM : MapIs w' q.2 LL.names (setF (kidF A P) x (.pointer (some ⟨w.heap.size + 1, 0, none⟩))))
    (hg : ((w.alloc (.map #[] 0)).alloc (.cells (zeroPl.cells w.heap.size) 71)).grownBy w' (some q.2)) :
    PT w' B LL (addA A (P ++ [toL x]) (w.heap.size + 1, w.heap.size)) V ∧ Ext A (addA A (P ++ [toL x]) (w.heap.size + 1, w.heap.size)) w.heap.size ∧ Fr A w w' := by
  obtain ⟨w2, hw2⟩ : ∃ w2, w2 = (w.alloc (.map #[] 0)).alloc (.cells (zeroPl.cells w.heap.size) 71) := ⟨_, rfl⟩
  rw [← hw2] at hg
  have hb : Below w.heap.size w w2 := by rw [hw2]; exact ((Below.refl w.heap.size w).alloc (Nat.le_refl _) _).alloc (by simp) _
  have hs2 : w2.heap.size = w.heap.size + 2 := by rw [hw2]; simp
  have r1 : w2.heap[w.heap.size + 1]? = some (.cells (zeroPl.cells w.heap.size) 71 (0, 0)) := by
    rw [hw2]
    have h := World.alloc_heap_new (w.alloc (.map #[] 0)) (Obj.cells (zeroPl.cells w.heap.size) 71)
    simp only [World.size_alloc] at h
    exact h
  have m0 : MapIs w2 w.heap.size LL.names fun _ => none := by
    have h := MapIs.made w LL.names
    refine h.same ?_
    rw [hw2, Below.heap_alloc _ _ _ (by simp)]
  clear hw2
  have hq := h.lt ⟨P, q, hP, .inr rfl⟩
  have hold : ∀ k, k < w.heap.size → k ≠ q.2 → w'.heap[k]? = w.heap[k]? := fun k hk hne => (hg.block k (by omega) (fun e => hne (by injection e))).trans (hb.block k hk)
  have hnone : V (P ++ [toL x]) = zeroPl := h.zero _ hn
  have hdeep : ∀ y, A (P ++ [toL x] ++ [y]) = none := fun y => by
    cases e : A (P ++ [toL x] ++ [y]) with
    | none => rfl
    | some r => exact absurd hn (h.up _ y (by rw [e]; simp))
  have hx : Ext A (addA A (P ++ [toL x]) (w.heap.size + 1, w.heap.size)) w.heap.size := by
    refine ⟨fun R r e => ?_, fun R r e => ?_⟩
    · rw [addA_other]
      · exact e
      · rintro rfl
        rw [hn] at e; cases e
    · by_cases hR : R = P ++ [toL x]
      · subst hR
        rw [addA_same] at e
        injection e with e
        subst e
        exact .inr ⟨by simp, by simp⟩
      · rw [addA_other _ _ _ _ hR] at e
        exact .inl e
  refine ⟨⟨fun R r e => ?_, fun R r e => ?_, fun R r e => ?_, fun R S r s e1 e2 e3 => ?_, fun R S r s e1 e2 e3 => ?_, fun R y e => ?_, fun R e => ?_, fun R e => ?_⟩, hx, ?_⟩
  · rcases hx.new R r e with e | e
    · exact h.low R r e
    · omega
  · by_cases hR : R = P ++ [toL x]
    · subst hR
      rw [addA_same] at e
      injection e with e
      subst e
      rw [hnone]
      exact (hg.block _ (by omega) (fun e => by injection e with e; omega)).trans r1
    · rw [addA_other _ _ _ _ hR] at e
      exact (hold _ (h.lt ⟨R, r, e, .inl rfl⟩).2 (h.apart e hP)).trans (h.cell R r e)
  · by_cases hR : R = P ++ [toL x]
    · subst hR
      rw [addA_same] at e
      injection e with e
      subst e
      have e2 : kidF (addA A (P ++ [toL x]) (w.heap.size + 1, w.heap.size)) (P ++ [toL x]) = fun _ => none := by
        funext y
        unfold kidF
        rw [addA_other, hdeep]
        · rfl
        · intro e
          have := congrArg List.length e
          simp at this
      rw [e2]
      exact m0.same (hg.block _ (by omega) (fun e => by injection e with e; omega))
    · rw [addA_other _ _ _ _ hR] at e
      by_cases hRP : R = P
      · subst hRP
        rw [e] at hP
        injection hP with hP
        subst hP
        rw [kidF_same]
        exact hM
      · rw [kidF_other _ _ _ _ _ hRP]
        refine (h.map R r e).same (hold _ (h.lt ⟨R, r, e, .inr rfl⟩).2 fun e2 => hRP (h.inj2 _ _ _ _ e hP e2))
  · by_cases hR : R = P ++ [toL x]
    · by_cases hS : S = P ++ [toL x]
      · rw [hR, hS]
      · subst hR
        rw [addA_same] at e1
        rw [addA_other _ _ _ _ hS] at e2
        injection e1 with e1
        subst e1
        have := (h.lt ⟨S, s, e2, .inl rfl⟩).2
        simp only at e3
        omega
    · rw [addA_other _ _ _ _ hR] at e1
      by_cases hS : S = P ++ [toL x]
      · subst hS
        rw [addA_same] at e2
        injection e2 with e2
        subst e2
        have := (h.lt ⟨R, r, e1, .inl rfl⟩).2
        simp only at e3
        omega
      · rw [addA_other _ _ _ _ hS] at e2
        exact h.inj1 R S r s e1 e2 e3
  · by_cases hR : R = P ++ [toL x]
    · by_cases hS : S = P ++ [toL x]
      · rw [hR, hS]
      · subst hR
        rw [addA_same] at e1
        rw [addA_other _ _ _ _ hS] at e2
        injection e1 with e1
        subst e1
        have := (h.lt ⟨S, s, e2, .inr rfl⟩).2
        simp only at e3
        omega
    · rw [addA_other _ _ _ _ hR] at e1
      by_cases hS : S = P ++ [toL x]
      · subst hS
        rw [addA_same] at e2
        injection e2 with e2
        subst e2
        have := (h.lt ⟨R, r, e1, .inr rfl⟩).2
        simp only at e3
        omega
      · rw [addA_other _ _ _ _ hS] at e2
        exact h.inj2 R S r s e1 e2 e3
  · by_cases hR : R ++ [y] = P ++ [toL x]
    · rw [(snoc_inj hR).1, addA_other, hP]
      · simp
      · intro e
        have := congrArg List.length e
        simp at this
    · rw [addA_other _ _ _ _ hR] at e
      have := h.up R y e
      by_cases hR2 : R = P ++ [toL x]
      · rw [hR2, addA_same]; simp
      · rw [addA_other _ _ _ _ hR2]; exact this
  · by_cases hR : R = P ++ [toL x]
    · rw [hR, addA_same] at e; cases e
    · rw [addA_other _ _ _ _ hR] at e
      exact h.zero R e
  · by_cases hR : R = P ++ [toL x]
    · rw [hR]; exact hd
    · rw [addA_other _ _ _ _ hR] at e
      exact h.dom R e
  · exact ⟨hg.os.trans hb.os, hg.tape.trans hb.tape, hg.output.trans hb.output, by have := hg.size; omega, fun k hk hno => hold k hk fun e => hno ⟨P, q, hP, .inr e⟩⟩
end Go.Proofs.YteoafohebgfjdaaGreatDoor
