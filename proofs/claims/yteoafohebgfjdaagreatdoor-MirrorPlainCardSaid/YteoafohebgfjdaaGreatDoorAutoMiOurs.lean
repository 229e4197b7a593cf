/-
  Texts that belong together: PathCmp, MiReach, MiFound, MiOurs.
-/
import Derived.Test.YteoafohebgfjdaaGreatDoorAutoBytes
import Derived.Test.YteoafohebgfjdaaGreatDoorAutoPathCmpL
import Derived.WalkKit
import Derived.WalkSpells
import Derived.WalkLawsBesides
import Derived.Deep.QuietTactic
import Derived.BigQuiet
import Derived.WalkSmall
import Derived.Test.YteoafohebgfjdaaGreatDoorAutoMkWithin
import Derived.Deep.AppendLies
/-
  paths.Cmp.
-/
namespace Go.Proofs.YteoafohebgfjdaaGreatDoor
open Go.RowKit
set_option maxRecDepth 100000

set_option maxHeartbeats 400000 in
theorem rank_any (b : Int) (h0 : 0 ≤ b) (h1 : b < 256) (w : World) :
    Calls Tryz.prog 64 #[.int .u8 b] w fun e w' => e = .returned (.int .i64 (rankZ b)) ∧ w' = w := by
  go_enter Tryz.func64, Tryz.ntmps64
  by_cases h : b = 47
  · subst h
    go_wp2
    go_ret
    exact ⟨rfl, rfl⟩
  · have HR := hide (show rankZ b = b from if_neg h)
    go_wp2
    go_ret
    exact ⟨by rw [HR.out]; rfl, rfl⟩

set_option maxHeartbeats 400000 in
theorem sign_any (n : Int) (w : World) :
    Calls Tryz.prog 63 #[.int .i64 n] w fun e w' => e = .returned (.int .i64 (signZ n)) ∧ w' = w := by
  go_enter Tryz.func63, Tryz.ntmps63
  by_cases h1 : n < 0
  · have HS := hide (show signZ n = -1 by unfold signZ; rw [if_pos h1])
    by_cases h2 : n < -1
    · go_wp2
      go_ret
      exact ⟨by rw [HS.out]; rfl, rfl⟩
    · obtain rfl : n = -1 := by omega
      go_wp2
      go_ret
      exact ⟨by rw [HS.out]; rfl, rfl⟩
  · by_cases h3 : n = 0
    · subst h3
      have HS := hide (show signZ 0 = 0 from rfl)
      go_wp2
      go_ret
      exact ⟨rfl, rfl⟩
    · have HS := hide (show signZ n = 1 by unfold signZ; rw [if_neg h1, if_neg h3])
      have g1 : ¬ n < -1 := by omega
      by_cases h4 : n = 1
      · subst h4
        go_wp2
        go_ret
        exact ⟨rfl, rfl⟩
      · have g2 : 1 < n := by omega
        have g3 : ¬ n < 1 := by omega
        go_wp2
        go_ret
        exact ⟨by rw [HS.out]; rfl, rfl⟩

/-- Nothing but draws. -/
def Dr (w w' : World) : Prop := ∃ n, w' = w.drewN n
theorem Dr.refl (w : World) : Dr w w := ⟨0, rfl⟩
theorem Dr.drewN {w w' : World} (h : Dr w w') (n : Nat) : Dr w (w'.drewN n) := by
  obtain ⟨m, rfl⟩ := h
  exact ⟨m + n, by simp [World.drewN, Nat.add_assoc]⟩
theorem Dr.below {w w' : World} (h : Dr w w') : Below w.heap.size w w' := by
  obtain ⟨m, rfl⟩ := h
  exact below_drewN (Below.refl _ _) _

set_option maxRecDepth 100000 in
set_option maxHeartbeats 2000000 in
theorem cmp_drew (p q : ByteArray) (w : World) (hp : (p.size : Int) ≤ 9223372036854775800) (hq : (q.size : Int) ≤ 9223372036854775800) :
    Calls Tryz.prog 46 #[.string p, .string q] w fun e w' => e = .returned (.int .i64 (cmpL p.data.toList q.data.toList)) ∧ Dr w w' := by
  go_enter Tryz.func46, Tryz.ntmps46
  by_cases hle : (q.size : Int) < p.size
  · have hM : min p.size q.size = q.size := by omega
    have HM := hide hM
    clear hM
    go_wp2_with fail
    go_loopw [13] (fun i wr => ∃ k : Nat, k ≤ q.size ∧ i = .int .i64 k ∧ Hid (p.data.toList.take k = q.data.toList.take k) ∧ Dr w wr) (fun i _ => q.size - (intOf i).toNat)
    case atStart => exact ⟨0, Nat.zero_le _, rfl, hide (by simp), Dr.refl _⟩
    case round =>
      obtain ⟨k, hk, rfl, HA, hB⟩ := hrel
      by_cases hkm : (k : Int) < q.size
      · have hk1 : (k : Int) < p.size := by omega
        have hk2 : (k : Int) < q.size := by omega
        have n1 : k < p.size := by omega
        have n2 : k < q.size := by omega
        by_cases he : p[k] = q[k]
        · have hs := hide (take_snoc_eq k p q HA.out n1 n2 he)
          have hq1 : (p[k].toNat : Int) = (q[k].toNat : Int) := by rw [he]
          clear he
          go_wp2_with fail
          go_quiet (fail)
          go_wp2_with fail
          go_roundw
          case rel => exact ⟨k + 1, by omega, rfl, hs, hB.drewN _⟩
          case measure => simp [intOf]; omega
        · have hc := hide (cmpL_at k p q HA.out n1 n2 he)
          have hq1 : ¬ (p[k].toNat : Int) = (q[k].toNat : Int) := fun e => he (UInt8.toNat_inj.1 (by omega))
          have b1 : (p[k].toNat : Int) < 256 := by have := p[k].toNat_lt; omega
          have b2 : (q[k].toNat : Int) < 256 := by have := q[k].toNat_lt; omega
          have r1 := rankZ_in p[k].toNat p[k].toNat_lt
          have r2 := rankZ_in q[k].toNat q[k].toNat_lt
          have hw : IntKind.i64.wrap (rankZ p[k].toNat - rankZ q[k].toNat) = rankZ p[k].toNat - rankZ q[k].toNat := by rw [IntKind.wrap_i64]; omega
          clear he r1 r2
          go_wp2_with fail
          go_quiet (fail)
          go_wp2_with fail
          have hB2 := hB.drewN nq
          generalize wr.drewN nq = wq at hB2 ⊢
          clear hB
          go_quiet (first
            | (go_at_call 64; exact Calls.quiet_of_same (rank_any _ (by omega) (by omega) _))
            | (go_at_call 63; exact Calls.quiet_of_same (sign_any _ _)))
          go_wp2_with fail
          refine bodyPost_ret (results_tmp rfl _ _ _) rfl ?_
          exact ⟨by rw [hc.out]; rfl, hB2.drewN _⟩
      · obtain rfl : k = q.size := by omega
        have hc := hide (cmpL_end p q (by rw [HM.out]; exact HA.out))
        go_wp2_with fail
        refine (sign_any _ _).mono ?_
        rintro e w' ⟨rfl, rfl⟩
        go_wp2_with fail
        refine bodyPost_ret (results_tmp rfl _ _ _) rfl ?_
        exact ⟨by rw [hc.out]; rfl, hB⟩
  · have hM : min p.size q.size = p.size := by omega
    have HM := hide hM
    clear hM
    go_wp2_with fail
    go_loopw [13] (fun i wr => ∃ k : Nat, k ≤ p.size ∧ i = .int .i64 k ∧ Hid (p.data.toList.take k = q.data.toList.take k) ∧ Dr w wr) (fun i _ => p.size - (intOf i).toNat)
    case atStart => exact ⟨0, Nat.zero_le _, rfl, hide (by simp), Dr.refl _⟩
    case round =>
      obtain ⟨k, hk, rfl, HA, hB⟩ := hrel
      by_cases hkm : (k : Int) < p.size
      · have hk1 : (k : Int) < p.size := by omega
        have hk2 : (k : Int) < q.size := by omega
        have n1 : k < p.size := by omega
        have n2 : k < q.size := by omega
        by_cases he : p[k] = q[k]
        · have hs := hide (take_snoc_eq k p q HA.out n1 n2 he)
          have hq1 : (p[k].toNat : Int) = (q[k].toNat : Int) := by rw [he]
          clear he
          go_wp2_with fail
          go_quiet (fail)
          go_wp2_with fail
          go_roundw
          case rel => exact ⟨k + 1, by omega, rfl, hs, hB.drewN _⟩
          case measure => simp [intOf]; omega
        · have hc := hide (cmpL_at k p q HA.out n1 n2 he)
          have hq1 : ¬ (p[k].toNat : Int) = (q[k].toNat : Int) := fun e => he (UInt8.toNat_inj.1 (by omega))
          have b1 : (p[k].toNat : Int) < 256 := by have := p[k].toNat_lt; omega
          have b2 : (q[k].toNat : Int) < 256 := by have := q[k].toNat_lt; omega
          have r1 := rankZ_in p[k].toNat p[k].toNat_lt
          have r2 := rankZ_in q[k].toNat q[k].toNat_lt
          have hw : IntKind.i64.wrap (rankZ p[k].toNat - rankZ q[k].toNat) = rankZ p[k].toNat - rankZ q[k].toNat := by rw [IntKind.wrap_i64]; omega
          clear he r1 r2
          go_wp2_with fail
          go_quiet (fail)
          go_wp2_with fail
          have hB2 := hB.drewN nq
          generalize wr.drewN nq = wq at hB2 ⊢
          clear hB
          go_quiet (first
            | (go_at_call 64; exact Calls.quiet_of_same (rank_any _ (by omega) (by omega) _))
            | (go_at_call 63; exact Calls.quiet_of_same (sign_any _ _)))
          go_wp2_with fail
          refine bodyPost_ret (results_tmp rfl _ _ _) rfl ?_
          exact ⟨by rw [hc.out]; rfl, hB2.drewN _⟩
      · obtain rfl : k = p.size := by omega
        have hc := hide (cmpL_end p q (by rw [HM.out]; exact HA.out))
        go_wp2_with fail
        refine (sign_any _ _).mono ?_
        rintro e w' ⟨rfl, rfl⟩
        go_wp2_with fail
        refine bodyPost_ret (results_tmp rfl _ _ _) rfl ?_
        exact ⟨by rw [hc.out]; rfl, hB⟩

theorem cmp_any (p q : ByteArray) (w : World) (hp : (p.size : Int) ≤ 9223372036854775800) (hq : (q.size : Int) ≤ 9223372036854775800) :
    Calls Tryz.prog 46 #[.string p, .string q] w fun e w' => e = .returned (.int .i64 (cmpL p.data.toList q.data.toList)) ∧ Below w.heap.size w w' :=
  (cmp_drew p q w hp hq).mono fun _ _ h => ⟨h.1, h.2.below⟩
end Go.Proofs.YteoafohebgfjdaaGreatDoor
/-
  What the walk over the places tells: plain.
-/
namespace Go.Proofs.YteoafohebgfjdaaGreatDoor
open Go.RowKit Go.Maps
set_option maxRecDepth 100000

/-- Something is sent there that nothing of the receiver's stands in the way of. -/
def oursV (v : Pl) : Bool := !(v.s.kind == 0 || v.shut) && (v.s.kind == 1 || v.d.kind != 1 || !v.left)
/-- Whether it is the receiver's that is told of a place, and beneath it; none: nothing is. -/
def nxt (th : Bool) (v : Pl) : Option Bool := if (!th && oursV v) = true then some false else if v.left = true then some true else none
/-- Along some names from a place on. -/
def rr (V : Ns → Pl) : Bool → Ns → Ns → Option Bool
  | th, _, [] => some th
  | th, P, x :: Q => match nxt th (V (P ++ [x])) with
    | none => none
    | some t => rr V t (P ++ [x]) Q
theorem nxt_zero (th : Bool) : nxt th zeroPl = none := by cases th <;> rfl
theorem rr_none {V : Ns → Pl} {th : Bool} {P Q : Ns} {x : List UInt8} (h : nxt th (V (P ++ [x])) = none) : rr V th P (x :: Q) = none := by unfold rr; rw [h]
theorem rr_some {V : Ns → Pl} {th t : Bool} {P Q : Ns} {x : List UInt8} (h : nxt th (V (P ++ [x])) = some t) : rr V th P (x :: Q) = rr V t (P ++ [x]) Q := by rw [rr, h]
/-- A node of the mirror, and whose it is. -/
structure Fd where
  node : Nd
  ours : Bool
def emit (V : Ns → Pl) (k : Ns × Bool) : Fd := if k.2 = true then ⟨(V k.1).d, false⟩ else ⟨(V k.1).s, true⟩
/-- What is told beneath a place, through those names that pass. -/
structure KS (V : Ns → Pl) (th : Bool) (P : Ns) (pass : List UInt8 → Prop) (K : List (Ns × Bool)) : Prop where
  mem : ∀ k, k ∈ K ↔ ∃ x Q, pass x ∧ k.1 = P ++ x :: Q ∧ rr V th P (x :: Q) = some k.2
  apart : K.Pairwise fun a b => a.1 ≠ b.1
theorem KS.nil {V : Ns → Pl} {th : Bool} {P : Ns} {pass : List UInt8 → Prop} (h : ∀ x, pass x → nxt th (V (P ++ [x])) = none) : KS V th P pass [] :=
  ⟨fun k => ⟨fun h => (List.not_mem_nil h).elim, fun ⟨x, Q, h1, _, h3⟩ => by rw [rr_none (h x h1)] at h3; cases h3⟩, List.Pairwise.nil⟩
theorem KS.skip {V : Ns → Pl} {th : Bool} {P : Ns} {pass pass' : List UInt8 → Prop} {K : List (Ns × Bool)} (h : KS V th P pass K) (x : List UInt8) (hp : ∀ y, pass' y ↔ pass y ∨ y = x) (hn : nxt th (V (P ++ [x])) = none) : KS V th P pass' K := by
  refine ⟨fun k => ?_, h.apart⟩
  rw [h.mem k]
  constructor
  · rintro ⟨y, Q, h1, h2⟩
    exact ⟨y, Q, (hp y).2 (.inl h1), h2⟩
  · rintro ⟨y, Q, h1, h2, h3⟩
    rcases (hp y).1 h1 with h1 | rfl
    · exact ⟨y, Q, h1, h2, h3⟩
    · rw [rr_none hn] at h3; cases h3
/-- One more name, and all beneath it. -/
theorem KS.more {V : Ns → Pl} {th t : Bool} {P : Ns} {pass pass' : List UInt8 → Prop} {K K2 : List (Ns × Bool)} (h : KS V th P pass K) (x : List UInt8) (hx : ¬ pass x) (hp : ∀ y, pass' y ↔ pass y ∨ y = x) (hn : nxt th (V (P ++ [x])) = some t)
    (h2 : KS V t (P ++ [x]) (fun _ => True) K2) : KS V th P pass' (K ++ [(P ++ [x], t)] ++ K2) := by
  have e1 : ∀ (y : List UInt8) (Q Q' : Ns), P ++ y :: Q = P ++ [x] ++ Q' → y = x ∧ Q = Q' := fun y Q Q' e => by
    rw [List.append_assoc] at e
    have := List.append_cancel_left e
    simpa using this
  refine ⟨fun k => ?_, ?_⟩
  · rw [List.mem_append, List.mem_append, h.mem k, List.mem_singleton, h2.mem k]
    constructor
    · rintro ((⟨y, Q, k1, k2⟩ | rfl) | ⟨y, Q, _, k2, k3⟩)
      · exact ⟨y, Q, (hp y).2 (.inl k1), k2⟩
      · exact ⟨x, [], (hp x).2 (.inr rfl), rfl, by rw [rr_some hn]; rfl⟩
      · exact ⟨x, y :: Q, (hp x).2 (.inr rfl), by rw [k2, List.append_assoc]; rfl, by rw [rr_some hn]; exact k3⟩
    · rintro ⟨y, Q, k1, k2, k3⟩
      rcases (hp y).1 k1 with k1 | rfl
      · exact .inl (.inl ⟨y, Q, k1, k2, k3⟩)
      · rw [rr_some hn] at k3
        cases Q with
        | nil =>
          left; right
          have : k.2 = t := by injection k3 with k3; exact k3.symm
          obtain ⟨a, b⟩ := k
          simp only at k2 this
          rw [k2, this]
        | cons z Q => exact .inr ⟨z, Q, trivial, by rw [k2, List.append_assoc]; rfl, k3⟩
  · rw [List.pairwise_append]
    refine ⟨?_, h2.apart, fun a ha b hb e => ?_⟩
    · rw [List.pairwise_append]
      refine ⟨h.apart, List.pairwise_singleton _ _, fun a ha b hb e => ?_⟩
      rw [List.mem_singleton] at hb
      subst hb
      obtain ⟨y, Q, k1, k2, _⟩ := (h.mem a).1 ha
      have := e1 y Q [] (by rw [← k2, List.append_nil]; exact e)
      exact hx (this.1 ▸ k1)
    · obtain ⟨z, Q', _, k4, _⟩ := (h2.mem b).1 hb
      rw [List.mem_append, List.mem_singleton] at ha
      rcases ha with ha | rfl
      · obtain ⟨y, Q, k1, k2, _⟩ := (h.mem a).1 ha
        have := e1 y Q (z :: Q') (by rw [← k2, ← k4]; exact e)
        exact hx (this.1 ▸ k1)
      · have := congrArg List.length (e.trans k4)
        simp at this
/-- Paths that are told each once, of those that may come up, are no more than these. -/
theorem apart_few {α : Type} [DecidableEq α] : ∀ (l m : List α), l.Pairwise (fun a b => a ≠ b) → (∀ x ∈ l, x ∈ m) → l.length ≤ m.length
  | [], _, _, _ => Nat.zero_le _
  | x :: l, m, h, hm => by
    obtain ⟨h1, h2⟩ := List.pairwise_cons.1 h
    have hx := hm x List.mem_cons_self
    have := apart_few l (m.erase x) h2 fun y hy => (List.mem_erase_of_ne (Ne.symm (h1 y hy))).2 (hm y (List.mem_cons_of_mem _ hy))
    rw [List.length_erase_of_mem hx] at this
    have := List.length_pos_of_mem hx
    simp only [List.length_cons]
    omega
end Go.Proofs.YteoafohebgfjdaaGreatDoor
/-
  Nodes of the mirror, each with whose it is, one behind the other.
-/
namespace Go.Proofs.YteoafohebgfjdaaGreatDoor
open Go.RowKit Go.Maps
set_option maxRecDepth 100000

def Fd.cells (n : Fd) : Array Value := #[.string n.node.path, .int .i64 n.node.kind, .int .i64 n.node.mode, .int .i64 n.node.time, .string n.node.data, .bool n.ours]
def cellsFd (l : List Fd) : List Value := l.flatMap fun n => n.cells.toList
theorem cellsFd_len : ∀ l : List Fd, (cellsFd l).length = l.length * 6
  | [] => rfl
  | n :: l => by
    show (n.cells.toList ++ cellsFd l).length = _
    rw [List.length_append, cellsFd_len l, List.length_cons]
    show 6 + _ = _
    omega
theorem cellsFd_app (l m : List Fd) : cellsFd (l ++ m) = cellsFd l ++ cellsFd m := by simp [cellsFd]
theorem cellsFd_get : ∀ (l : List Fd) (k : Nat) (n : Fd), l[k]? = some n → ∀ j v, n.cells[j]? = some v → (cellsFd l)[k * 6 + j]? = some v
  | [], k, n, h, _, _, _ => by simp at h
  | u :: l, 0, n, h, j, v, hv => by
    simp at h
    subst h
    show (u.cells.toList ++ cellsFd l)[0 * 6 + j]? = _
    have hj : j < u.cells.toList.length := by simpa using (Array.getElem?_eq_some_iff.1 hv).1
    rw [Nat.zero_mul, Nat.zero_add, List.getElem?_append_left hj]
    simpa using hv
  | u :: l, k + 1, n, h, j, v, hv => by
    have h1 := cellsFd_get l k n (by simpa using h) j v hv
    show (u.cells.toList ++ cellsFd l)[(k + 1) * 6 + j]? = _
    have e6 : u.cells.toList.length = 6 := rfl
    rw [List.getElem?_append_right (by rw [e6]; omega), e6, ← h1]
    congr 1
    omega
theorem info_fd : (Tryz.prog.info? 53).map (fun i => (i.zero, i.size, i.bytes)) = some (some (.agg #[.string ⟨#[]⟩, .int .i64 0, .int .i64 0, .int .i64 0, .string ⟨#[]⟩, .bool false]), 6, 64) := by kernel_rfl
theorem infoF_parts {i : Option TypeInfo} {a b : Nat} {v : Value} (h : i.map (fun i => (i.zero, i.size, i.bytes)) = some (some v, a, b)) : ∃ i0, i = some i0 ∧ i0.zero = some v ∧ i0.size = a ∧ i0.bytes = b := by
  cases i with
  | none => cases h
  | some i => injection h with h; injection h with h1 h2; injection h2 with h2 h3; exact ⟨i, rfl, h1, h2, h3⟩
theorem cellsFd_one (n : Fd) : ∀ u ∈ n.cells.toList, u.oneCell' = true := by
  intro u hu
  simp [Fd.cells] at hu
  rcases hu with rfl | rfl | rfl | rfl | rfl | rfl <;> rfl
/-- The function that calls itself. -/
def underV (b : Nat) : Value := .func (.func 42) #[] #[.pointer (some ⟨b, 0, none⟩), .pointer (some ⟨b + 1, 0, none⟩)]
/-- What has been told so far. -/
structure WI (w0 : World) (out : List Fd) (W : World) : Prop where
  below : Below w0.heap.size w0 W
  out : ∃ E c, W.heap[w0.heap.size]? = some (.cells #[.slice E out.length c] 48 (0, 0)) ∧ W.ownsRow (w0.heap.size + 2) 53 6 (.slice E out.length c) out.length (cellsFd out)
  self : W.heap[w0.heap.size + 1]? = some (.cells #[underV w0.heap.size] 68 (0, 0))
theorem WI.step {w0 W W' : World} {out : List Fd} (h : WI w0 out W) (hb : Below W.heap.size W W') : WI w0 out W' := by
  obtain ⟨E, c, h1, h2⟩ := h.out
  exact ⟨h.below.trans (hb.mono h.below.size), ⟨E, c, (hb.block _ (Array.getElem?_eq_some_iff.1 h1).1).trans h1, own_below h2 hb⟩, (hb.block _ (Array.getElem?_eq_some_iff.1 h.self).1).trans h.self⟩
/-- Something turns that is none of these: an iterator. -/
theorem WI.grown {w0 W W' : World} {out : List Fd} {r : Nat} {o : Obj} (h : WI w0 out W) (hg : W.grownBy W' (some r)) (hr : W.heap[r]? = some o) (ho : ∀ c t f, o ≠ .cells c t f) (hb : w0.heap.size ≤ r) : WI w0 out W' := by
  obtain ⟨E, c, h1, h2⟩ := h.out
  have ne : ∀ k c t f, W.heap[k]? = some (.cells c t f) → some k ≠ some r := fun k c t f hk e => by
    injection e with e
    subst e
    rw [hr] at hk
    injection hk with hk
    exact ho c t f hk
  refine ⟨h.below.grown hg h.below.size (fun k e => by cases e; exact hb), ⟨E, c, (hg.block _ (Array.getElem?_eq_some_iff.1 h1).1 (ne _ _ _ _ h1)).trans h1, h2.kept hg ?_⟩, (hg.block _ (Array.getElem?_eq_some_iff.1 h.self).1 (ne _ _ _ _ h.self)).trans h.self⟩
  rcases h2.2 with ⟨hv, _⟩ | ⟨g, cap, cur, hv, _, hgg, _⟩
  · left; rw [hv]; rfl
  · right
    rw [hv]
    exact ne _ _ _ _ hgg
/-- One more has been told: append, and the store. -/
theorem WI.more {w0 W W1 W2 : World} {out : List Fd} {n : Fd} {E : Option Addr} {c g cap : Nat} (h : WI w0 out W) (hE : W.heap[w0.heap.size]? = some (.cells #[.slice E out.length c] 48 (0, 0))) (hown : W.ownsRow (w0.heap.size + 2) 53 6 (.slice E out.length c) out.length (cellsFd out))
    (hb : Below W.heap.size W W1) (hO : W2.ownsRow (w0.heap.size + 2) 53 6 (.slice (some ⟨g, 0, none⟩) (out.length + 1) cap) (out.length + 1) (cellsFd out ++ n.cells.toList)) (hg : W1.grownBy W2 (Value.slice E out.length c).ownBlock) :
    WI w0 (out ++ [n]) (W2.setCell ⟨w0.heap.size, 0, none⟩ (.slice (some ⟨g, 0, none⟩) (out.length + 1) cap)) ∧ W2.heap[w0.heap.size]? = some (.cells #[.slice E out.length c] 48 (0, 0)) := by
  have h1 := h.step hb
  have hlt := hown.lt
  have ne : ∀ k, k < w0.heap.size + 2 → some k ≠ (Value.slice E out.length c).ownBlock := fun k hk e => by have := (hlt k e.symm).1; omega
  have e1 := (hb.block _ (Array.getElem?_eq_some_iff.1 hE).1).trans hE
  have e2 := (hg.block _ (Array.getElem?_eq_some_iff.1 e1).1 (ne _ (by omega))).trans e1
  have s2 := (hg.block _ (Array.getElem?_eq_some_iff.1 h1.self).1 (ne _ (by omega))).trans h1.self
  refine ⟨⟨?_, ⟨some ⟨g, 0, none⟩, cap, ?_, ?_⟩, ?_⟩, e2⟩
  · exact (h1.below.grown hg h1.below.size (fun r e => by have := (hlt r e).1; omega)).setCell (p := ⟨w0.heap.size, 0, none⟩) (Nat.le_refl _) _
  · rw [List.length_append]
    exact heap_setCell_same _ _ 0 _ _ _ e2
  · rw [List.length_append, cellsFd_app]
    have e3 : cellsFd [n] = n.cells.toList := by simp [cellsFd]
    rw [e3]
    refine hO.kept (row := some w0.heap.size) ⟨rfl, rfl, rfl, by simp, fun k _ hne => heap_setCell_other W2 _ k _ (fun e => hne (by rw [e]))⟩ (.inr fun e => ?_)
    have := (hO.lt w0.heap.size e).1
    omega
  · exact (heap_setCell_other W2 _ _ _ (by simp)).trans s2
end Go.Proofs.YteoafohebgfjdaaGreatDoor
/-
  (*place).ours.
-/
namespace Go.Proofs.YteoafohebgfjdaaGreatDoor
open Go.RowKit Go.Maps
set_option maxRecDepth 100000

set_option maxHeartbeats 4000000 in
theorem ours_any (g m : Nat) (v : Pl) (w : World) (h : w.heap[g]? = some (.cells (v.cells m) 71 (0, 0))) :
    Calls Tryz.prog 43 #[.pointer (some ⟨g, 0, none⟩)] w fun e w' => e = .returned (.bool (oursV v)) ∧ w' = w := by
  obtain ⟨⟨sp, sk, sm, st, sd⟩, ⟨dp, dk, dm, dt, dd⟩, shut, left⟩ := v
  have y1 : w.cell? ⟨g, 1, none⟩ = some (.int .i64 sk) := cell_of_row _ _ 1 _ _ _ h
  have y6 : w.cell? ⟨g, 6, none⟩ = some (.int .i64 dk) := cell_of_row _ _ 6 _ _ _ h
  have y10 : w.cell? ⟨g, 10, none⟩ = some (.bool shut) := cell_of_row _ _ 10 _ _ _ h
  have y11 : w.cell? ⟨g, 11, none⟩ = some (.bool left) := cell_of_row _ _ 11 _ _ _ h
  obtain ⟨V, hV⟩ : ∃ V, V = oursV ⟨⟨sp, sk, sm, st, sd⟩, ⟨dp, dk, dm, dt, dd⟩, shut, left⟩ := ⟨_, rfl⟩
  rw [← hV]
  unfold oursV at hV
  simp only at hV
  clear h
  cases h0 : (sk == 0) with
  | true =>
    have HV := hide (show V = false by rw [hV, h0]; rfl)
    clear hV
    go_enter Tryz.func43, Tryz.ntmps43
    go_wp2_with fail
    exact bodyPost_ret (results_tmp rfl _ _ _) rfl ⟨by rw [HV.out]; rfl, rfl⟩
  | false =>
    cases shut with
    | true =>
      have HV := hide (show V = false by rw [hV, h0]; rfl)
      clear hV
      go_enter Tryz.func43, Tryz.ntmps43
      go_wp2_with fail
      exact bodyPost_ret (results_tmp rfl _ _ _) rfl ⟨by rw [HV.out]; rfl, rfl⟩
    | false =>
      cases h1 : (sk == 1) with
      | true =>
        have HV := hide (show V = true by rw [hV, h0, h1]; rfl)
        clear hV
        go_enter Tryz.func43, Tryz.ntmps43
        go_wp2_with fail
        exact bodyPost_ret (results_tmp rfl _ _ _) rfl ⟨by rw [HV.out]; rfl, rfl⟩
      | false =>
        cases h2 : (dk != 1) with
        | true =>
          have HV := hide (show V = true by rw [hV, h0, h1, h2]; rfl)
          clear hV
          go_enter Tryz.func43, Tryz.ntmps43
          go_wp2_with fail
          exact bodyPost_ret (results_tmp rfl _ _ _) rfl ⟨by rw [HV.out]; rfl, rfl⟩
        | false =>
          have HV := hide (show V = !left by rw [hV, h0, h1, h2]; cases left <;> rfl)
          clear hV
          go_enter Tryz.func43, Tryz.ntmps43
          go_wp2_with fail
          exact bodyPost_ret (results_tmp rfl _ _ _) rfl ⟨by rw [HV.out]; rfl, rfl⟩
end Go.Proofs.YteoafohebgfjdaaGreatDoor
