/-
  Packets that lie at an address, one behind the other; rows of packets of the call's own.
-/
import Derived.Test.YtfknfpngcnianaaLkTurn
import Derived.Laws.AppendOwnNone
namespace Go.Proofs.Ytfknfpngcnianaa
open Go.RowKit
set_option maxRecDepth 100000

/-- A packet's cells. -/
def Pk.cells (n : Pk) : Array Value := #[.string (ofL n.b), .bool n.t]
/-- A packet's two cells, at an address. -/
structure PkAt (w : World) (ad : Addr) (n : Pk) : Prop where
  b : w.cell? ad = some (.string (ofL n.b))
  t : w.cell? ⟨ad.block, ad.off + 1, none⟩ = some (.bool n.t)
theorem PkAt.below {w w' : World} {B : Nat} {ad : Addr} {n : Pk} (h : PkAt w ad n) (hb : Below B w w') (hB : ad.block < B) : PkAt w' ad n :=
  ⟨(hb.cell hB).trans h.b, (hb.cell (p := ⟨ad.block, _, none⟩) hB).trans h.t⟩
/-- Tackets that lie at an address, one behind the other, below block B. -/
def RdP (w : World) (B : Nat) (A : Option Addr) (l : List Pk) : Prop :=
  ∀ k n, l[k]? = some n → ∃ ad : Addr, A = some ad ∧ ad.block < B ∧ PkAt w (ad.add (k * 2)) n
theorem RdP.below {w w' : World} {B B' : Nat} {A : Option Addr} {l : List Pk} (h : RdP w B A l) (hb : Below B' w w') (hB : B ≤ B') : RdP w' B A l := fun k x hx => by
  obtain ⟨ad, e, hlt, h0⟩ := h k x hx
  exact ⟨ad, e, hlt, h0.below hb (by rw [add_block]; omega)⟩
theorem RdP.mono {w : World} {B B' : Nat} {A : Option Addr} {l : List Pk} (h : RdP w B A l) (hB : B ≤ B') : RdP w B' A l := fun k x hx => by
  obtain ⟨ad, e, hlt, hc⟩ := h k x hx
  exact ⟨ad, e, by omega, hc⟩
theorem RdP.step {w w' : World} {A : Option Addr} {l : List Pk} (h : RdP w w.heap.size A l) (hb : Below w.heap.size w w') : RdP w' w'.heap.size A l := (h.below hb (Nat.le_refl _)).mono hb.size
theorem RdP.nil (w : World) (B : Nat) (A : Option Addr) : RdP w B A [] := fun k x hx => by simp at hx
theorem RdP.of_none {w : World} {B : Nat} {l : List Pk} (h : RdP w B none l) : l = [] := by
  cases l with
  | nil => rfl
  | cons y r => obtain ⟨ad, e', _⟩ := h 0 y rfl; cases e'

/-- Tackets' cells. -/
def cellsP (l : List Pk) : List Value := l.flatMap fun n => n.cells.toList
theorem cellsP_app (l m : List Pk) : cellsP (l ++ m) = cellsP l ++ cellsP m := by simp [cellsP]
theorem cellsP_snoc (l : List Pk) (n : Pk) : cellsP (l ++ [n]) = cellsP l ++ [.string (ofL n.b), .bool n.t] := by simp [cellsP, Pk.cells]
theorem cellsP_len : ∀ l : List Pk, (cellsP l).length = l.length * 2
  | [] => rfl
  | n :: l => by
    show (n.cells.toList ++ cellsP l).length = _
    rw [List.length_append, cellsP_len l, List.length_cons]
    show 2 + _ = _
    omega
theorem cellsP_get : ∀ (l : List Pk) (k : Nat) (n : Pk), l[k]? = some n → (cellsP l)[k * 2]? = some (.string (ofL n.b)) ∧ (cellsP l)[k * 2 + 1]? = some (.bool n.t)
  | [], k, n, h => by simp at h
  | u :: l, 0, n, h => by
    simp at h
    subst h
    exact ⟨rfl, rfl⟩
  | u :: l, k + 1, n, h => by
    have e : ∀ j, (cellsP (u :: l))[2 + j]? = (cellsP l)[j]? := fun j => by
      show (u.cells.toList ++ cellsP l)[2 + j]? = _
      rw [List.getElem?_append_right (by show 2 ≤ _; omega)]
      congr 1
      show 2 + j - 2 = j
      omega
    obtain ⟨h1, h2⟩ := cellsP_get l k n (by simpa using h)
    refine ⟨?_, ?_⟩
    · rw [show (k + 1) * 2 = 2 + k * 2 by omega, e]; exact h1
    · rw [show (k + 1) * 2 + 1 = 2 + (k * 2 + 1) by omega, e]; exact h2
theorem addP_off (g k : Nat) : ((⟨g, 0, none⟩ : Addr).add k) = ⟨g, k, none⟩ := by unfold Addr.add; split <;> simp_all
theorem RdP.own {w : World} {B n c : Nat} {e : TypeId} {A : Option Addr} {l : List Pk} (h : w.ownsRow B e 2 (.slice A n c) n (cellsP l)) : RdP w w.heap.size A l := by
  intro k r hk
  obtain ⟨q1, q2⟩ := cellsP_get l k r hk
  rcases h.2 with ⟨hv, h0⟩ | ⟨g, cap, cur, hv, _, hg, _⟩
  · have h1 := h.1
    rw [h0] at h1
    have : cellsP l = [] := List.length_eq_zero_iff.1 (by omega)
    rw [this] at q1; simp at q1
  · injection hv with hA
    subst hA
    have hc := fun j u hj => h.cells (g := g) rfl j u hj
    refine ⟨_, rfl, (Array.getElem?_eq_some_iff.1 hg).1, ?_⟩
    have h1 := hc _ _ q1
    have h2 := hc _ _ q2
    rw [addP_off] at h1 h2 ⊢
    exact ⟨h1, h2⟩
theorem RdP.spot {w : World} {B : Nat} {ad : Addr} {n : Pk} {l : List Pk} (h : RdP w B (some ad) l) (h0 : l[0]? = some n) : ad.spot = none := by
  obtain ⟨ad', e, _, hn⟩ := h 0 n h0
  cases e
  have hp := hn.b
  rw [show ad.add (0 * 2) = ad from rfl] at hp
  unfold World.cell? at hp
  split at hp
  · split at hp
    · cases hp
    · rename_i h; simpa using h
  · cases hp
/-- Each cell of packets that lie at an address. -/
theorem RdP.cell {w : World} {B : Nat} {ad : Addr} {l : List Pk} (h : RdP w B (some ad) l) : ∀ j u, (cellsP l)[j]? = some u → w.cell? (ad.add j) = some u := by
  intro j u hu
  have hj := (List.getElem?_eq_some_iff.1 hu).1
  rw [cellsP_len] at hj
  obtain ⟨k, r, hr, rfl⟩ : ∃ k r, r < 2 ∧ j = k * 2 + r := ⟨j / 2, j % 2, by omega, by omega⟩
  have hk : k < l.length := by omega
  have hs := h.spot (List.getElem?_eq_getElem (show 0 < l.length by omega))
  obtain ⟨q1, q2⟩ := cellsP_get l k l[k] (List.getElem?_eq_getElem hk)
  obtain ⟨ad', e', _, hn⟩ := h k l[k] (List.getElem?_eq_getElem hk)
  cases e'
  have hb : ∀ i, ad.add i = ⟨ad.block, ad.off + i, none⟩ := fun i => by
    obtain ⟨b, o, s⟩ := ad
    simp only at hs
    subst hs
    unfold Addr.add; split <;> simp_all
  rw [hb] at hn ⊢
  obtain ⟨h1, h2⟩ := hn
  simp only at h1 h2
  rw [← Nat.add_assoc]
  rcases r with _ | _ | r
  · rw [Nat.add_zero] at hu ⊢; rw [q1] at hu; rw [← hu]; exact h1
  · rw [q2] at hu; rw [← hu]; exact h2
  · omega
theorem cellsP_one (l : List Pk) : ∀ u ∈ cellsP l, u.oneCell' = true := by
  intro u hu
  obtain ⟨n, _, hn⟩ := List.mem_flatMap.1 hu
  simp [Pk.cells] at hn
  rcases hn with rfl | rfl <;> rfl
theorem info_rpk : (Try.prog.info? 59).map (fun i => (i.zero, i.size, i.bytes)) = some (some (.agg #[.string ⟨#[]⟩, .bool false]), 2, 24) := by kernel_rfl
theorem RdP.drew {w : World} {A : Option Addr} {l : List Pk} (h : RdP w w.heap.size A l) : RdP w.drew w.drew.heap.size A l := h.step (Below.refl _ w).drew
theorem RdP.take {w : World} {B : Nat} {A : Option Addr} {l : List Pk} (h : RdP w B A l) (k : Nat) : RdP w B A (l.take k) := fun j x hx => by
  rw [List.getElem?_take] at hx
  split at hx
  · exact h j x hx
  · cases hx
/-- What is left of tackets behind the first k. -/
theorem RdP.drop {w : World} {B c k : Nat} {A : Option Addr} {l : List Pk} (h : RdP w B A l) (hc : l.length ≤ c) : RdP w B (if c = k then A else A.map (·.add (k * 2))) (l.drop k) := fun j x hx => by
  rw [List.getElem?_drop] at hx
  have hlt := (List.getElem?_eq_some_iff.1 hx).1
  obtain ⟨ad, rfl, hb, hn⟩ := h (k + j) x hx
  rw [if_neg (by omega)]
  refine ⟨ad.add (k * 2), rfl, by rw [add_block]; exact hb, ?_⟩
  have e : (ad.add (k * 2)).add (j * 2) = ad.add ((k + j) * 2) := by
    rw [Nat.add_mul]
    generalize k * 2 = a
    generalize j * 2 = b
    unfold Addr.add
    by_cases hi : a = 0 <;> by_cases hj : b = 0 <;> simp [hi, hj, Nat.add_assoc]
  rw [e]; exact hn
/-- A tacket that has just been laid. -/
theorem RdP.one (W : World) (n : Pk) (t : TypeId) : RdP (W.alloc (.cells n.cells t)) (W.alloc (.cells n.cells t)).heap.size (some ⟨W.heap.size, 0, none⟩) [n] := fun k x hx => by
  rcases k with _ | k
  · simp at hx
    subst hx
    have hrow := World.alloc_heap_new W (Obj.cells n.cells t)
    refine ⟨_, rfl, by simp, ?_⟩
    rw [addP_off]
    exact ⟨cell_of_row _ _ _ _ _ _ hrow, cell_of_row _ _ _ _ _ _ hrow⟩
  · simp at hx
theorem ownsRow_lowerP {w : World} {base base' n size : Nat} {e : TypeId} {v : Value} {xs : List Value} (h : w.ownsRow base e size v n xs) (hb : base' ≤ base) : w.ownsRow base' e size v n xs :=
  ⟨h.1, h.2.imp id fun ⟨g, cap, cur, h1, h2, h3⟩ => ⟨g, cap, cur, h1, Nat.le_trans hb h2, h3⟩⟩
/-- append onto a row of the call's own of a slice that reads as tackets, nil or not. -/
theorem wpList_append_pks {P : Program} {w : World} {ops : Array Oper} {rest : List Oper} {o : Oper} {a : Act} {Q : Exit → Act → World → Prop} (hgd : o.guard = none) (s x : Operand) (t : TypeId)
    (ho : o.op = .call { callee := .builtin .append, args := #[s, x], argTypes := #[t, t] })
    (base : Nat) (e : TypeId) (i : TypeInfo) (ht : P.underlying t = some (.slice e)) (hi : P.info? e = some i) (hz : i.zero = some (.agg #[.string ⟨#[]⟩, .bool false])) (hsize : i.size = 2) (hby : i.bytes = 24)
    (v : Value) (n : Nat) (xs : List Value) (hs : a.eval s = v) (hown : w.ownsRow base e 2 v n xs)
    (A : Option Addr) (m c B : Nat) (cs : List Pk) (hx : a.eval x = .slice A m c) (hm : m = cs.length) (hr : RdP w B A cs)
    (h63 : n + m ≤ maxLen) (hbytes : (n + m) * 24 ≤ 140737488355328) (hbase : base ≤ w.heap.size)
    (h : ∀ v' w', w'.ownsRow base e 2 v' (n + m) (xs ++ cellsP cs) → w.grownBy w' v.ownBlock → wpList P ops Q rest (a.put o.dst v') w') : wpList P ops Q (o :: rest) a w := by
  rcases A with _ | ad
  · have h0 : cs = [] := hr.of_none
    subst h0
    obtain rfl : m = 0 := hm
    refine wpList_plain hgd fun K hK => ?_
    have hrun := run_append_nil (P := P) (w := w) base t o.type e i 2 ht hi v n xs hown c
    unfold Oper.wp
    simp [execOp, ho, resolve, invoke, builtin, hs, hx, hrun, Result.andThen]
    exact hK _ _ (h v w (by simpa [cellsP] using hown) (World.grownBy.refl w _))
  · exact wpList_append_own w hgd s x t ho base e i _ 2 24 ht hi hz hsize hby rfl (by decide) v n xs hs hown ad m c (cellsP cs) hx (by rw [cellsP_len, hm]) hr.cell (cellsP_one cs) h63 hbytes hbase (fun v' w' h1 h2 _ => h v' w' h1 h2)
/-- A call's answer: a slice of these tackets, in a row of the call's own. -/
structure PI (w0 : World) (e : TypeId) (v : Value) (l : List Pk) (w' : World) : Prop where
  below : Below w0.heap.size w0 w'
  own : w'.ownsRow w0.heap.size e 2 v l.length (cellsP l)
theorem PI.step {w w1 w2 : World} {e : TypeId} {v : Value} {l : List Pk} (h : PI w e v l w1) (hb : Below w1.heap.size w1 w2) : PI w e v l w2 :=
  ⟨h.below.trans (hb.mono h.below.size), own_below h.own hb⟩
theorem infoP_parts {i : Option TypeInfo} {a b : Nat} {v : Value} (h : i.map (fun i => (i.zero, i.size, i.bytes)) = some (some v, a, b)) : ∃ i0, i = some i0 ∧ i0.zero = some v ∧ i0.size = a ∧ i0.bytes = b := cl_info h
theorem cellsP_set (l : List Pk) (j : Nat) (t : Pk) (h : j < l.length) : ((cellsP l).set (j * 2) (.string (ofL t.b))).set (j * 2 + 1) (.bool t.t) = cellsP (l.set j t) := by
  have hl := cellsP_len l
  apply List.ext_getElem?
  intro k
  rw [List.getElem?_set, List.getElem?_set, List.length_set]
  by_cases hk : k < l.length * 2
  · obtain ⟨q, r, hr, rfl⟩ : ∃ q r, r < 2 ∧ k = q * 2 + r := ⟨k / 2, k % 2, by omega, by omega⟩
    have hq : q < l.length := by omega
    obtain ⟨e1, e2⟩ := cellsP_get l q l[q] (List.getElem?_eq_getElem hq)
    by_cases e : q = j
    · subst e
      obtain ⟨f1, f2⟩ := cellsP_get (l.set q t) q t (List.getElem?_set_self hq)
      rcases r with _ | _ | r
      · simp only [Nat.add_zero]
        rw [if_neg (by omega), if_pos trivial, if_pos (by omega), f1]
      · rw [if_pos rfl, if_pos (by omega), f2]
      · omega
    · obtain ⟨f1, f2⟩ := cellsP_get (l.set j t) q l[q] (by rw [List.getElem?_set_ne (Ne.symm e)]; exact List.getElem?_eq_getElem hq)
      rcases r with _ | _ | r
      · simp only [Nat.add_zero]
        rw [if_neg (by omega), if_neg (by omega), f1, e1]
      · rw [if_neg (by omega), if_neg (by omega), f2, e2]
      · omega
  · rw [if_neg (by omega), if_neg (by omega), List.getElem?_eq_none_iff.2 (by omega), List.getElem?_eq_none_iff.2 (by rw [cellsP_len, List.length_set]; omega)]
/-- A packet is stored into another one's place. -/
theorem PI.store {w W : World} {e : TypeId} {b m g j : Nat} {l : List Pk} (h : PI w e (.slice (some ⟨b, 0, none⟩) m g) l W) (hm : l.length = m) (hj : j < m) (t : Pk) :
    PI w e (.slice (some ⟨b, 0, none⟩) m g) (l.set j t) ((W.setCell ⟨b, j * 2, none⟩ (.string (ofL t.b))).setCell ⟨b, j * 2 + 1, none⟩ (.bool t.t)) ∧
    (W.frozen? ⟨b, j * 2, none⟩ = false ∧ W.frozen? ⟨b, j * 2 + 1, none⟩ = false) := by
  subst hm
  have ho := h.own
  have hb : w.heap.size ≤ b := (ho.lt b rfl).1
  have s1 := ho.stored (j * 2) (.string (ofL t.b))
  have s2 := s1.1.stored (j * 2 + 1) (.bool t.t)
  refine ⟨⟨(h.below.grown s1.2 h.below.size (fun k hk => by cases hk; exact hb)).grown s2.2 (h.below.grown s1.2 h.below.size (fun k hk => by cases hk; exact hb)).size (fun k hk => by cases hk; exact hb), ?_⟩, ⟨ho.frozenAt _, ho.frozenAt _⟩⟩
  rw [List.length_set, ← cellsP_set l j t hj]
  exact s2.1
theorem ownP_zero {w : World} {base e size m c : Nat} {B : Option Addr} {xs : List Value} (h : w.ownsRow base e size (.slice B m c) m xs) (h0 : m ≠ 0) : ∃ b, B = some ⟨b, 0, none⟩ := by
  rcases h.2 with ⟨_, hz⟩ | ⟨g, cap, cur, hv, _⟩
  · exact absurd hz h0
  · injection hv with e1
    exact ⟨g, e1⟩
end Go.Proofs.Ytfknfpngcnianaa
