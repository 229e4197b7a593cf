/-
  All that is under what is shut out is shut out; a rule that shuts out all; rules behind one another in memory.
-/
import Derived.Test.YthlalmehcpionaaDoorRuleAwake
namespace Go.Proofs.YthlalmehcpionaaDoor
open Go.RowKit
set_option maxRecDepth 100000

theorem mem_rd {n i : Nat} : i ∈ (List.range n).drop 1 ↔ 1 ≤ i ∧ i < n := by
  cases n with
  | zero => simp
  | succ n =>
    rw [List.range_succ_eq_map, List.drop_succ_cons, List.drop_zero, List.mem_map]
    constructor
    · rintro ⟨j, hj, rfl⟩
      have := List.mem_range.1 hj
      omega
    · intro h
      exact ⟨i - 1, List.mem_range.2 (by omega), by show i - 1 + 1 = i; omega⟩
theorem names_eq {p : List UInt8} (h : p ≠ []) (hr : rightL p = true) : namesL p = splitL p := by rw [names_cut, hr, if_pos rfl, cut_ne p h]
theorem shut_under {l : List (Bool × List UInt8)} {p q : List UInt8} (hp : p ≠ []) (hr : rightL p = true) (hx : rightL (p ++ 47 :: q) = true) (h : shutL l p true = true) (dir : Bool) : shutL l (p ++ 47 :: q) dir = true := by
  have e1 := names_eq hp hr
  have e2 : namesL (p ++ 47 :: q) = namesL p ++ splitL q := by rw [names_eq (by simp) hx, split_append, e1]
  have hlen : (namesL (p ++ 47 :: q)).length = (namesL p).length + (splitL q).length := by rw [e2]; simp
  have hq : 0 < (splitL q).length := List.length_pos_iff.2 (splitL_ne q)
  have hn : namesL p ≠ [] := by rw [e1]; exact splitL_ne p
  have hnl : 0 < (namesL p).length := List.length_pos_iff.2 hn
  have hw := names_whole hn
  unfold shutL at h ⊢
  rw [Bool.or_eq_true] at h ⊢
  left
  rw [List.any_eq_true]
  rcases h with h | h
  · rw [List.any_eq_true] at h
    obtain ⟨i, hi, hk⟩ := h
    obtain ⟨h1, h2⟩ := mem_rd.1 hi
    refine ⟨i, mem_rd.2 ⟨h1, by omega⟩, ?_⟩
    rw [e2, List.take_append_of_le_length (by omega)]
    exact hk
  · refine ⟨(namesL p).length, mem_rd.2 ⟨by omega, by omega⟩, ?_⟩
    rw [e2, List.take_append_of_le_length (Nat.le_refl _), List.take_length, hw]
    exact h
theorem shut_none (p : List UInt8) (dir : Bool) : shutL [] p dir = false := by
  unfold shutL
  have h : ∀ q d, keepsL q d [] = true := fun _ _ => rfl
  rw [h, Bool.not_true, Bool.or_false, List.any_eq_false]
  intro i _
  rw [h]; simp
theorem many_all (u : List UInt8) : acc [(true, spanP 0 256)] u = true := by
  show manyOf (spanP 0 256) (fun u => u.isEmpty) u = true
  induction u with
  | nil => rfl
  | cons c v ih =>
    unfold manyOf
    rw [ih]
    have : spanP 0 256 c.toNat = true := by
      unfold spanP
      have := c.toNat_lt
      simp
      omega
    rw [this]; simp
theorem parts_all : partsL [42, 42] = [(true, spanP 0 256)] := by rfl
theorem match_all {p : List UInt8} (hn : namesL p ≠ []) (dir : Bool) : matchesL [42, 42] p dir = true := by
  rw [matchesL_fits (by decide +kernel) hn (.inl (by decide +kernel))]
  unfold fitsL
  rw [parts_all, show wholeL [42, 42] = false from by decide +kernel]
  have hl : 0 < (tailsL p).length := by rw [tailsL_len]; exact List.length_pos_iff.2 hn
  cases ht : tailsL p with
  | nil => rw [ht] at hl; simp at hl
  | cons a t => simp [many_all]
theorem keeps_more (p : List UInt8) (dir : Bool) (hn : namesL p ≠ []) : ∀ l : List (Bool × List UInt8), keepsL p dir (l ++ [(false, [42, 42])]) = (l.any (fun r => matchesL r.2 p dir) && keepsL p dir l)
  | [] => by
    show (if matchesL [42, 42] p dir then false else keepsL p dir []) = _
    rw [match_all hn]; rfl
  | r :: t => by
    have ih := keeps_more p dir hn t
    show (if matchesL r.2 p dir then r.1 else keepsL p dir (t ++ [(false, [42, 42])])) = ((matchesL r.2 p dir || t.any (fun r => matchesL r.2 p dir)) && (if matchesL r.2 p dir then r.1 else keepsL p dir t))
    cases matchesL r.2 p dir with
    | true => simp
    | false => simpa using ih
theorem cellsR_at : ∀ (l : List (Bool × ByteArray)) (j : Nat) (u : Value), (cellsR l)[j]? = some u → ∃ (k : Nat) (r : Bool × ByteArray), l[k]? = some r ∧ ((j = k * 2 ∧ u = .bool r.1) ∨ (j = k * 2 + 1 ∧ u = .string r.2))
  | [], j, u, h => by simp [cellsR] at h
  | r :: l, 0, u, h => by
    have h : some (Value.bool r.1) = some u := h
    injection h with h
    exact ⟨0, r, rfl, .inl ⟨rfl, h.symm⟩⟩
  | r :: l, 1, u, h => by
    have h : some (Value.string r.2) = some u := h
    injection h with h
    exact ⟨0, r, rfl, .inr ⟨rfl, h.symm⟩⟩
  | r :: l, j + 2, u, h => by
    have h : (cellsR l)[j]? = some u := h
    obtain ⟨k, q, hk, hq⟩ := cellsR_at l j u h
    refine ⟨k + 1, q, by simpa using hk, ?_⟩
    rcases hq with ⟨h1, h2⟩ | ⟨h1, h2⟩
    · exact .inl ⟨by omega, h2⟩
    · exact .inr ⟨by omega, h2⟩
theorem cellsR_len : ∀ l : List (Bool × ByteArray), (cellsR l).length = l.length * 2
  | [] => rfl
  | r :: l => by
    have h := cellsR_len l
    show ([Value.bool r.1, Value.string r.2] ++ cellsR l).length = _
    rw [List.length_append, h]
    simp; omega
theorem RdR.cells {w : World} {B : Nat} {ad : Addr} {l : List (Bool × ByteArray)} (h : RdR w B (some ad) l) (j : Nat) (u : Value) (hu : (cellsR l)[j]? = some u) : w.cell? (ad.add j) = some u := by
  obtain ⟨k, r, hk, hq⟩ := cellsR_at l j u hu
  obtain ⟨ad', e, _, c0, c1⟩ := h k r hk
  cases e
  rcases hq with ⟨rfl, rfl⟩ | ⟨rfl, rfl⟩
  · exact c0
  · have e1 : ad.add (k * 2 + 1) = ⟨(ad.add (k * 2)).block, (ad.add (k * 2)).off + 1, none⟩ := by
      unfold Addr.add
      by_cases hk0 : k * 2 = 0
      · simp [hk0]
      · simp [hk0, Nat.add_assoc]
    rw [e1]; exact c1

/-- append onto a row of the call's own of a slice that reads as rules, nil or not. -/
theorem wpList_append_rules {w : World} {ops : Array Oper} {rest : List Oper} {o : Oper} {a : Act} {Q : Exit → Act → World → Prop} (hgd : o.guard = none) (s x : Operand)
    (ho : o.op = .call { callee := .builtin .append, args := #[s, x], argTypes := #[22, 22] })
    (base : Nat) (v : Value) (n : Nat) (xs : List Value) (hs : a.eval s = v) (hown : w.ownsRow base 28 2 v n xs)
    (A : Option Addr) (m c B : Nat) (l : List (Bool × ByteArray)) (hx : a.eval x = .slice A m c) (hm : m = l.length) (hr : RdR w B A l) (hnil : A = none → c = 0)
    (h63 : n + m ≤ maxLen) (hbytes : (n + m) * 24 ≤ 140737488355328) (hbase : base ≤ w.heap.size)
    (h : ∀ v' w', w'.ownsRow base 28 2 v' (n + m) (xs ++ cellsR l) → w.grownBy w' v.ownBlock → wpList Tryd.prog ops Q rest (a.put o.dst v') w') : wpList Tryd.prog ops Q (o :: rest) a w := by
  obtain ⟨i0, hi, hz0, hz1, hz2⟩ := info_parts info_rule
  rcases A with _ | ad
  · have h0 : l = [] := by
      cases l with
      | nil => rfl
      | cons y r => obtain ⟨ad, e', _⟩ := hr 0 y rfl; cases e'
    subst h0
    obtain rfl : m = 0 := hm
    refine wpList_plain hgd fun K hK => ?_
    have hrun := run_append_nil (P := Tryd.prog) (w := w) base 22 o.type 28 i0 2 Tryd.underlying22 hi v n xs hown c
    unfold Oper.wp
    simp [execOp, ho, resolve, invoke, builtin, hs, hx, hrun, Result.andThen]
    exact hK _ _ (h v w (by simpa [cellsR] using hown) (World.grownBy.refl w _))
  · refine wpList_append_own w hgd s x 22 ho base 28 i0 _ 2 24 Tryd.underlying22 hi hz0 hz1 hz2 rfl (by decide) v n xs hs hown ad m c (cellsR l) hx (by rw [cellsR_len, hm]) hr.cells ?_ h63 hbytes hbase (fun v' w' h1 h2 _ => h v' w' h1 h2)
    intro u hu
    obtain ⟨j, hj⟩ := List.getElem?_of_mem hu
    obtain ⟨_, _, _, ⟨_, rfl⟩ | ⟨_, rfl⟩⟩ := cellsR_at l j u hj
    · rfl
    · rfl
theorem cells_new1 (w : World) (a b : Value) (T : TypeId) (j : Nat) (u : Value) (h : [a, b][j]? = some u) : (w.alloc (.cells #[a, b] T)).cell? ((⟨w.heap.size, 0, none⟩ : Addr).add j) = some u := by
  rw [add_zero_off]
  exact (cell_of_row _ _ _ _ _ _ (World.alloc_heap_new w _)).trans (by rw [← h]; simp)
end Go.Proofs.YthlalmehcpionaaDoor
