/-
  The reference's put.
-/
import Derived.Test.YtfknfpngcnianaaLkPks
import Derived.Deep.RegionLaw
import Derived.Deep.AppendLies
import Derived.Test.YtfknfpngcnianaaHeldStep
import Derived.Deep.DeepCutAuto
namespace Go.Proofs.Ytfknfpngcnianaa
open Go.RowKit
set_option maxRecDepth 100000

/-- append of packets at a step of a region that draws its order. -/
theorem step_append_pks {P : Program} {w : World} {ops : Array Oper} {o : Oper} {a : Act} {K : Act → World → Prop} {Q : Exit → Act → World → Prop} {E : Prop} (hgd : o.guard = none) (s x : Operand) (t : TypeId)
    (ho : o.op = .call { callee := .builtin .append, args := #[s, x], argTypes := #[t, t] })
    (base : Nat) (e : TypeId) (i : TypeInfo) (ht : P.underlying t = some (.slice e)) (hi : P.info? e = some i) (hz : i.zero = some (.agg #[.string ⟨#[]⟩, .bool false])) (hsize : i.size = 2) (hby : i.bytes = 24)
    (v : Value) (n : Nat) (xs : List Value) (hs : a.eval s = v) (hown : w.ownsRow base e 2 v n xs)
    (A : Option Addr) (m c B : Nat) (cs : List Pk) (hx : a.eval x = .slice A m c) (hm : m = cs.length) (hr : RdP w B A cs)
    (h63 : n + m ≤ maxLen) (hbytes : (n + m) * 24 ≤ 140737488355328) (hbase : base ≤ w.heap.size)
    (h : ∀ v' w', w'.ownsRow base e 2 v' (n + m) (xs ++ cellsP cs) → w.grownBy w' v.ownBlock → K (a.put o.dst v') w') :
    if Region.wanted o (yielded ops a.tmps) = true then Oper.wp P o a w K Q else E := by
  rw [if_pos (by simp [Region.wanted, hgd])]
  rcases A with _ | ad
  · have h0 : cs = [] := hr.of_none
    subst h0
    obtain rfl : m = 0 := hm
    have hrun := run_append_nil (P := P) (w := w) base t o.type e i 2 ht hi v n xs hown c
    unfold Oper.wp
    simp [execOp, ho, resolve, invoke, builtin, hs, hx, hrun, Result.andThen]
    exact h v w (by simpa [cellsP] using hown) (World.grownBy.refl w _)
  · exact wp_append_own w s x t ho base e i _ 2 24 ht hi hz hsize hby rfl (by decide) v n xs hs hown ad m c (cellsP cs) hx (by rw [cellsP_len, hm]) hr.cell (cellsP_one cs) h63 hbytes hbase (fun v' w' h1 h2 _ => h v' w' h1 h2)

theorem RdP_row {W : World} {g : Nat} {p : Pk} (h : W.heap[g]? = some (.cells #[.string (ofL p.b), .bool p.t] 59 (0, 0))) : RdP W W.heap.size (some ⟨g, 0, none⟩) [p] := fun k x hx => by
  rcases k with _ | k
  · simp at hx
    subst hx
    refine ⟨_, rfl, (Array.getElem?_eq_some_iff.1 h).1, ?_⟩
    rw [addP_off]
    exact ⟨cell_of_row _ _ _ _ _ _ h, cell_of_row _ _ _ _ _ _ h⟩
  · simp at hx
/-- A row of the call's own is as it was where another block is written. -/
theorem own_off {W : World} {base e size n : Nat} {v : Value} {xs : List Value} (h : W.ownsRow base e size v n xs) (b : Nat) (hb : b < base) (j : Nat) (u : Value) : (W.setCell ⟨b, j, none⟩ u).ownsRow base e size v n xs :=
  h.kept (row := some b) ⟨rfl, rfl, rfl, by simp, fun k _ hne => heap_setCell_other W _ k _ (fun e => hne (by rw [e]))⟩ (by
    rcases hv : v.ownBlock with _ | x
    · exact .inl rfl
    · right
      intro e
      injection e with e
      have := (h.lt x hv).1
      omega)
theorem own_row {W : World} {base e size n : Nat} {v : Value} {xs : List Value} (h : W.ownsRow base e size v n xs) (b : Nat) (hb : b < base) (Y : Array Value) : (W.setRow b Y).ownsRow base e size v n xs :=
  h.kept (row := some b) ⟨rfl, rfl, rfl, by simp, fun k _ hne => setRow_other W b k Y (fun e => hne (by rw [e]))⟩ (by
    rcases hv : v.ownBlock with _ | x
    · exact .inl rfl
    · right
      intro e
      injection e with e
      have := (h.lt x hv).1
      omega)
theorem below_row {w W : World} (h : Below w.heap.size w W) {b : Nat} (hb : w.heap.size ≤ b) (Y : Array Value) : Below w.heap.size w (W.setRow b Y) :=
  ⟨h.os, h.tape, h.output, by simpa using h.size, fun k hk => (setRow_other W b k Y (by omega)).trans (h.block k hk)⟩
/-- One way in the reference's state: three of its six cells. -/
structure SAt (w : World) (X : Array Value) (k : Nat) (q : Way) (A : Option Addr) (c : Nat) : Prop where
  row : X[k]? = some (.slice A q.l.length c)
  sent : X[2 + k]? = some (.int .i64 q.sent)
  lost : X[4 + k]? = some (.int .i64 q.lost)
  cap : q.l.length ≤ c
  rd : RdP w w.heap.size A q.l
theorem SAt.step {w w' : World} {X : Array Value} {k c : Nat} {q : Way} {A : Option Addr} (h : SAt w X k q A c) (hb : Below w.heap.size w w') : SAt w' X k q A c :=
  ⟨h.row, h.sent, h.lost, h.cap, h.rd.step hb⟩
/-- What has become of one way, its packets in a row of the call's own; the other one is as it was. -/
def PTo (w : World) (X : Array Value) (k : Nat) (q : Way) (X' : Array Value) (w' : World) : Prop :=
  ∃ A c, X'.size = 6 ∧ (∀ v ∈ X'.toList, v.oneCell' = true) ∧ (X'[k]? = some (.slice A q.l.length c) ∧ X'[2 + k]? = some (.int .i64 q.sent) ∧ X'[4 + k]? = some (.int .i64 q.lost) ∧ w'.ownsRow w.heap.size 59 2 (.slice A q.l.length c) q.l.length (cellsP q.l)) ∧ (∀ j, j ≠ k → j ≠ 2 + k → j ≠ 4 + k → X'[j]? = X[j]?) ∧ Below w.heap.size w w'
/-- Where a way's packets lie: where they lay, or in memory that is new. -/
def High (w : World) (X : Array Value) (k : Nat) (A : Option Addr) : Prop := (∃ n c, X[k]? = some (.slice A n c)) ∨ ∀ ad, A = some ad → w.heap.size ≤ ad.block
theorem own_high {W : World} {base e size n c : Nat} {A : Option Addr} {xs : List Value} (h : W.ownsRow base e size (.slice A n c) n xs) : ∀ ad, A = some ad → base ≤ ad.block := fun ad e => by
  subst e
  exact (h.lt ad.block rfl).1
/-- What has become of one way; the other one is as it was. -/
def STo (w : World) (X : Array Value) (k : Nat) (q : Way) (X' : Array Value) (w' : World) : Prop :=
  ∃ A c, X'.size = 6 ∧ (∀ v ∈ X'.toList, v.oneCell' = true) ∧ SAt w' X' k q A c ∧ (∀ j, j ≠ k → j ≠ 2 + k → j ≠ 4 + k → X'[j]? = X[j]?) ∧ Below w.heap.size w w' ∧ High w X k A
theorem rows3 (w : World) (c d e : Array Value) (t u v : TypeId) : (((w.alloc (.cells c t)).alloc (.cells d u)).alloc (.cells e v)).heap[w.heap.size]? = some (.cells c t (0, 0)) ∧ (((w.alloc (.cells c t)).alloc (.cells d u)).alloc (.cells e v)).heap[w.heap.size + 1]? = some (.cells d u (0, 0)) ∧ (((w.alloc (.cells c t)).alloc (.cells d u)).alloc (.cells e v)).heap[w.heap.size + 2]? = some (.cells e v (0, 0)) ∧ Below w.heap.size w (((w.alloc (.cells c t)).alloc (.cells d u)).alloc (.cells e v)) := by
  obtain ⟨h0, h1, h2⟩ := rows2 w c d t u
  refine ⟨?_, ?_, ?_, h2.alloc (by simp; omega) _⟩
  · rw [Below.heap_alloc _ _ _ (by simp; omega)]; exact h0
  · rw [Below.heap_alloc _ _ _ (by simp)]; exact h1
  · have h := World.alloc_heap_new ((w.alloc (.cells c t)).alloc (.cells d u)) (Obj.cells e v)
    simp only [World.size_alloc] at h
    exact h


set_option maxHeartbeats 4000000 in
theorem refPut_room (k : Nat) (hk : k < 2) (X : Array Value) (q : Way) (p : Pk) (A : Option Addr) (c : Nat) (w : World) (hX : X.size = 6) (h1 : ∀ v ∈ X.toList, v.oneCell' = true) (h : SAt w X k q A c) (hr : q.l.length < 16) :
    Calls Try.prog 19 #[.agg X, .int .i64 k, .agg p.cells] w fun e w' => ∃ X', e = .returned (.agg X') ∧ PTo w X k (q.put p) X' w' := by
  obtain ⟨i0, hi, hz0, hz1, hz2⟩ := infoP_parts info_rpk
  obtain ⟨r0, r1, r2, hW⟩ := rows3 w X p.cells #[.slice none 0 0, .slice none 0 0, .int .i64 0, .int .i64 0, .int .i64 0, .int .i64 0] 31 59 31
  have hS := h.step hW
  have hr2 : ¬ (q.l.length : Int) = 16 := by omega
  have hk2 : (k : Int) < 2 := by omega
  have e0 := (cell_of_row _ _ k _ _ _ r0).trans h.row
  have HP := hide (show q.put p = { q with l := q.l ++ [p] } from by unfold Way.put; rw [if_neg (by omega)])
  have H1 := hide h1
  have HX := hide hX
  have HQ16 := hide hr
  unfold Pk.cells at *
  clear h1 hr
  clear h
  go_enter Try.func19, Try.ntmps19
  go_upto_region 4 with fail
  generalize (((w.alloc (.cells X 31)).alloc (.cells #[.string (ofL p.b), .bool p.t] 59)).alloc (.cells #[.slice none 0 0, .slice none 0 0, .int .i64 0, .int .i64 0, .int .i64 0, .int .i64 0] 31)) = V at r0 r1 r2 hW hS e0 ⊢
  have HOFF := hide (fun (j : Nat) (_ : j ≠ k) (_ : j ≠ 2 + k) (_ : j ≠ 4 + k) => (rfl : X[j]? = X[j]?))
  obtain ⟨X2, hX2⟩ : ∃ X2, X2 = X := ⟨_, rfl⟩
  subst hX2
  obtain ⟨r, hrq⟩ : ∃ r, r = q := ⟨_, rfl⟩
  subst hrq
  have HA := hide (fun W (b : Below V.heap.size V W) => hS.rd.step b)
  have HVB := hide (fun (W : World) (b : Below V.heap.size V W) => (⟨(cell_of_row _ _ 0 _ _ _ ((b.block _ (Array.getElem?_eq_some_iff.1 r1).1).trans r1)), (cell_of_row _ _ 1 _ _ _ ((b.block _ (Array.getElem?_eq_some_iff.1 r1).1).trans r1))⟩ : W.cell? ⟨w.heap.size + 1, 0, none⟩ = some (.string (ofL p.b)) ∧ W.cell? ⟨w.heap.size + 1, 1, none⟩ = some (.bool p.t)))
  have HVC := hide (fun (W : World) (b : Below V.heap.size V W) => (b.cell (p := ⟨w.heap.size, k, none⟩) (Array.getElem?_eq_some_iff.1 r0).1).trans e0)
  have HVF := hide (fun (W : World) (b : Below V.heap.size V W) => frozen_of_row _ _ k _ _ ((b.block _ (Array.getElem?_eq_some_iff.1 r0).1).trans r0))
  have HVS := hide (fun (W : World) (v : Value) (b : Below V.heap.size V W) => (⟨(cell_of_row _ _ 0 _ _ _ ((heap_setCell_other W ⟨w.heap.size, k, none⟩ _ v (by simp)).trans ((b.block _ (Array.getElem?_eq_some_iff.1 r1).1).trans r1))), (cell_of_row _ _ 1 _ _ _ ((heap_setCell_other W ⟨w.heap.size, k, none⟩ _ v (by simp)).trans ((b.block _ (Array.getElem?_eq_some_iff.1 r1).1).trans r1)))⟩ : (W.setCell ⟨w.heap.size, k, none⟩ v).cell? ⟨w.heap.size + 1, 0, none⟩ = some (.string (ofL p.b)) ∧ (W.setCell ⟨w.heap.size, k, none⟩ v).cell? ⟨w.heap.size + 1, 1, none⟩ = some (.bool p.t)))
  clear e0
  go_cut [37] (fun x wx => ∃ W9 B9 c9, x = .slice B9 (r.l.length + 1) c9 ∧ wx = W9.setCell ⟨w.heap.size, k, none⟩ (.slice B9 (r.l.length + 1) c9) ∧ Hid (Below V.heap.size V W9 ∧ W9.ownsRow V.heap.size 59 2 (.slice B9 (r.l.length + 1) c9) (r.l.length + 1) (cellsP (r.l ++ [p]))))
  case first =>
    refine wp_region_held (by kernel_rfl) (S := fun W => W.cell? ⟨w.heap.size + 1, 0, none⟩ = some (.string (ofL p.b)) ∧ W.cell? ⟨w.heap.size + 1, 1, none⟩ = some (.bool p.t)) ?_
    change wpAnyH _ _ _ _ _ _ _ _ (World.drew _)
    have hS := HVB.out _ (Below.refl V.heap.size V).drew
    refine wpAnyH_take (i := 0) (v := .int .i64 k) rfl (by kernel_rfl) (by kernel_rfl) (by kernel_rfl) (fun _ _ _ h => h) (Or.inl ⟨by kernel_rfl, ?y0_1⟩) hS ?r0_1
    case y0_1 => intro W hS; obtain ⟨s0, s1⟩ := hS; go_simp; try with_reducible rfl
    try simp only [Act.put, List.getElem_toArray, List.getElem_cons_zero, List.setIfInBounds_toArray, List.set_cons_zero, List.set_cons_succ]
    refine wpAnyH_take (i := 2) (v := .int .i64 k) rfl (by kernel_rfl) (by kernel_rfl) (by kernel_rfl) (fun _ _ _ h => h) (Or.inl ⟨by kernel_rfl, ?y2_2⟩) hS ?r2_2
    case y2_2 => intro W hS; obtain ⟨s0, s1⟩ := hS; go_simp; try with_reducible rfl
    try simp only [Act.put, List.getElem_toArray, List.getElem_cons_succ, List.getElem_cons_zero, List.setIfInBounds_toArray, List.set_cons_zero, List.set_cons_succ]
    refine wpAnyH_take (i := 3) (v := .pointer (some ⟨w.heap.size, 0, none⟩)) rfl (by kernel_rfl) (by kernel_rfl) (by kernel_rfl) (fun _ _ _ h => h) (Or.inl ⟨by kernel_rfl, ?y3_3⟩) hS ?r3_3
    case y3_3 => intro W hS; obtain ⟨s0, s1⟩ := hS; go_simp; try with_reducible rfl
    try simp only [Act.put, List.getElem_toArray, List.getElem_cons_succ, List.getElem_cons_zero, List.setIfInBounds_toArray, List.set_cons_zero, List.set_cons_succ]
    refine wpAnyH_take (i := 4) (v := .pointer (some ⟨w.heap.size, k, none⟩)) rfl (by kernel_rfl) (by kernel_rfl) (by kernel_rfl) (fun _ _ _ h => h) (Or.inl ⟨by kernel_rfl, ?y4_4⟩) hS ?r4_4
    case y4_4 => intro W hS; obtain ⟨s0, s1⟩ := hS; go_simp; try with_reducible rfl
    try simp only [Act.put, List.getElem_toArray, List.getElem_cons_succ, List.getElem_cons_zero, List.setIfInBounds_toArray, List.set_cons_zero, List.set_cons_succ]
    refine wpAnyH_take (i := 7) (v := .agg #[.string (ofL p.b), .bool p.t]) rfl (by kernel_rfl) (by kernel_rfl) (by kernel_rfl) (fun _ _ _ h => h) (Or.inl ⟨by kernel_rfl, ?y7_5⟩) hS ?r7_5
    case y7_5 => intro W hS; obtain ⟨s0, s1⟩ := hS; go_simp; try with_reducible rfl
    try simp only [Act.put, List.getElem_toArray, List.getElem_cons_succ, List.getElem_cons_zero, List.setIfInBounds_toArray, List.set_cons_zero, List.set_cons_succ]
    refine wpAnyH_take (i := 10) (v := .pointer (some ⟨w.heap.size, 0, none⟩)) rfl (by kernel_rfl) (by kernel_rfl) (by kernel_rfl) (fun _ _ _ h => h) (Or.inl ⟨by kernel_rfl, ?y10_6⟩) hS ?r10_6
    case y10_6 => intro W hS; obtain ⟨s0, s1⟩ := hS; go_simp; try with_reducible rfl
    try simp only [Act.put, List.getElem_toArray, List.getElem_cons_succ, List.getElem_cons_zero, List.setIfInBounds_toArray, List.set_cons_zero, List.set_cons_succ]
    clear hS
    have hB0 := (Below.refl V.heap.size V).drew
    generalize World.drew V = U0 at hB0 ⊢
    refine heldS_three (i := 1) (j := 5) (k := 8) (by kernel_rfl) rfl rfl rfl (fun K hK => ?_) (fun K hK => ?_) (fun K hK => ?_)
    · go_simp
      have hb := (Below.refl V.heap.size U0).alloc hB0.size (.cells #[] 59)
      have hB1 := hB0.alloc hB0.size (.cells #[] 59)
      have hO1 := World.ownsRow_lit (base := V.heap.size) (e := 59) (size := 2) U0 #[] 0 hB0.size (by decide) rfl
      obtain ⟨g1, hg1⟩ : ∃ g1, g1 = U0.heap.size := ⟨_, rfl⟩
      rw [← hg1] at hO1 ⊢
      have HG1 := hide hg1
      clear hg1
      refine hK _ _ (HVB.out _ hB1) ?_
      clear hK K hb
      try simp only [Act.put, List.getElem_toArray, List.getElem_cons_succ, List.getElem_cons_zero, List.setIfInBounds_toArray, List.set_cons_zero, List.set_cons_succ]
      generalize U0.alloc (.cells #[] 59) = U1 at hB1 hO1 ⊢
      refine heldS_two (i := 5) (k := 8) (by kernel_rfl) rfl rfl (fun K hK => ?_) (fun K hK => ?_)
      · have c5 := HVC.out _ hB1
        go_simp
        refine hK _ _ (HVB.out _ hB1) ?_
        clear hK K c5
        try simp only [Act.put, List.getElem_toArray, List.getElem_cons_succ, List.getElem_cons_zero, List.setIfInBounds_toArray, List.set_cons_zero, List.set_cons_succ]
        refine heldS_two (i := 6) (k := 8) (by kernel_rfl) rfl rfl (fun K hK => ?_) (fun K hK => ?_)
        · have hA := (HA.out _ hB1)
          refine step_append_pks rfl (.tmp 29) (.tmp 33) 27 rfl V.heap.size 59 i0 Try.underlying27 hi hz0 hz1 hz2 (.slice (some ⟨g1, 0, none⟩) 0 0) 0 [] rfl hO1 A _ c _ r.l rfl rfl hA (by have := HQ16.out; unfold maxLen; omega) (by have := HQ16.out; omega) hB1.size ?_
          intro v6 U2 hO2 hg
          have hB2 := hB1.grown hg hB1.size (fun r e => (hO1.lt r e).1)
          refine hK _ _ (HVB.out _ hB2) ?_
          clear hK K hg hA
          try simp only [Act.put, List.getElem_toArray, List.getElem_cons_succ, List.getElem_cons_zero, List.setIfInBounds_toArray, List.set_cons_zero, List.set_cons_succ]
          rw [Nat.zero_add, List.nil_append] at hO2
          refine heldS_one (i := 8) (by kernel_rfl) rfl (fun K hK => ?_)
          go_simp
          have hB3 := hB2.alloc hB2.size (.cells #[.string (ofL p.b), .bool p.t] 59)
          have R8_3 := World.alloc_heap_new U2 (.cells #[.string (ofL p.b), .bool p.t] 59)
          have hO3 := hO2.alloc (.cells #[.string (ofL p.b), .bool p.t] 59)
          have hne8 : some U2.heap.size ≠ v6.ownBlock := fun e => by have := (hO2.lt _ e.symm).2; omega
          obtain ⟨g8, hg8⟩ : ∃ g8, g8 = U2.heap.size := ⟨_, rfl⟩
          rw [← hg8] at R8_3 hne8 ⊢
          have HG8 := hide hg8
          clear hg8
          refine hK _ _ (HVB.out _ hB3) ?_
          clear hK K
          try simp only [Act.put, List.getElem_toArray, List.getElem_cons_succ, List.getElem_cons_zero, List.setIfInBounds_toArray, List.set_cons_zero, List.set_cons_succ]
          generalize U2.alloc (.cells #[.string (ofL p.b), .bool p.t] 59) = U3 at hB3 R8_3 hO3 ⊢
          refine heldS_one (i := 9) (by kernel_rfl) rfl (fun K hK => ?_)
          have hP := RdP_row R8_3
          refine step_append_pks rfl (.tmp 34) (.tmp 36) 27 rfl V.heap.size 59 i0 Try.underlying27 hi hz0 hz1 hz2 v6 _ _ rfl hO3 (some ⟨g8, 0, none⟩) 1 1 _ [p] rfl rfl hP (by have := HQ16.out; unfold maxLen; omega) (by have := HQ16.out; omega) hB3.size ?_
          intro v9 U4 hO4 hg
          have hB4 := hB3.grown hg hB3.size (fun r e => (hO3.lt r e).1)
          refine hK _ _ (HVB.out _ hB4) ?_
          clear hK K hg hP
          try simp only [Act.put, List.getElem_toArray, List.getElem_cons_succ, List.getElem_cons_zero, List.setIfInBounds_toArray, List.set_cons_zero, List.set_cons_succ]
          rw [← cellsP_app] at hO4
          have hS := HVB.out _ hB4
          refine wpAnyH_take (i := 11) (v := .pointer (some ⟨w.heap.size, k, none⟩)) rfl (by kernel_rfl) (by kernel_rfl) (by kernel_rfl) (fun _ _ _ h => h) (Or.inl ⟨by kernel_rfl, ?y11_7⟩) hS ?r11_7
          case y11_7 => intro W hS; obtain ⟨s0, s1⟩ := hS; go_simp; try with_reducible rfl
          try simp only [Act.put, List.getElem_toArray, List.getElem_cons_succ, List.getElem_cons_zero, List.setIfInBounds_toArray, List.set_cons_zero, List.set_cons_succ]
          clear hS
          have c12 := HVC.out _ hB4
          have z12 := HVF.out _ hB4
          obtain ⟨B9, c9, rfl⟩ := ownsRow_slice hO4
          refine heldS_one (i := 12) (by kernel_rfl) rfl (fun K hK => ?_)
          go_simp
          refine hK _ _ (HVS.out _ _ hB4) ?_
          clear hK K c12 z12
          try simp only [Act.put, List.getElem_toArray, List.getElem_cons_succ, List.getElem_cons_zero, List.setIfInBounds_toArray, List.set_cons_zero, List.set_cons_succ]
          refine wpAnyH_done (by kernel_rfl) ?_ _
          go_wp2_with fail
          go_meet
          case rel => exact ⟨_, B9, c9, rfl, rfl, hide ⟨hB4, hO4⟩⟩
        · go_simp
          have hB2 := hB1.alloc hB1.size (.cells #[.string (ofL p.b), .bool p.t] 59)
          have R8_2 := World.alloc_heap_new U1 (.cells #[.string (ofL p.b), .bool p.t] 59)
          have hO2 := hO1.alloc (.cells #[.string (ofL p.b), .bool p.t] 59)
          have hne8 : some U1.heap.size ≠ (Value.slice (some ⟨g1, 0, none⟩) 0 0).ownBlock := fun e => by have := (hO1.lt _ e.symm).2; omega
          obtain ⟨g8, hg8⟩ : ∃ g8, g8 = U1.heap.size := ⟨_, rfl⟩
          rw [← hg8] at R8_2 hne8 ⊢
          have HG8 := hide hg8
          clear hg8
          refine hK _ _ (HVB.out _ hB2) ?_
          clear hK K
          try simp only [Act.put, List.getElem_toArray, List.getElem_cons_succ, List.getElem_cons_zero, List.setIfInBounds_toArray, List.set_cons_zero, List.set_cons_succ]
          generalize U1.alloc (.cells #[.string (ofL p.b), .bool p.t] 59) = U2 at hB2 R8_2 hO2 ⊢
          refine heldS_one (i := 6) (by kernel_rfl) rfl (fun K hK => ?_)
          have hA := (HA.out _ hB2)
          refine step_append_pks rfl (.tmp 29) (.tmp 33) 27 rfl V.heap.size 59 i0 Try.underlying27 hi hz0 hz1 hz2 (.slice (some ⟨g1, 0, none⟩) 0 0) 0 [] rfl hO2 A _ c _ r.l rfl rfl hA (by have := HQ16.out; unfold maxLen; omega) (by have := HQ16.out; omega) hB2.size ?_
          intro v6 U3 hO3 hg
          have hB3 := hB2.grown hg hB2.size (fun r e => (hO2.lt r e).1)
          have hlt6 := (Array.getElem?_eq_some_iff.1 R8_2).1
          have R8_3 := (hg.block g8 hlt6 hne8).trans R8_2
          clear hlt6 hne8
          refine hK _ _ (HVB.out _ hB3) ?_
          clear hK K hg hA
          try simp only [Act.put, List.getElem_toArray, List.getElem_cons_succ, List.getElem_cons_zero, List.setIfInBounds_toArray, List.set_cons_zero, List.set_cons_succ]
          rw [Nat.zero_add, List.nil_append] at hO3
          refine heldS_one (i := 9) (by kernel_rfl) rfl (fun K hK => ?_)
          have hP := RdP_row R8_3
          refine step_append_pks rfl (.tmp 34) (.tmp 36) 27 rfl V.heap.size 59 i0 Try.underlying27 hi hz0 hz1 hz2 v6 _ _ rfl hO3 (some ⟨g8, 0, none⟩) 1 1 _ [p] rfl rfl hP (by have := HQ16.out; unfold maxLen; omega) (by have := HQ16.out; omega) hB3.size ?_
          intro v9 U4 hO4 hg
          have hB4 := hB3.grown hg hB3.size (fun r e => (hO3.lt r e).1)
          refine hK _ _ (HVB.out _ hB4) ?_
          clear hK K hg hP
          try simp only [Act.put, List.getElem_toArray, List.getElem_cons_succ, List.getElem_cons_zero, List.setIfInBounds_toArray, List.set_cons_zero, List.set_cons_succ]
          rw [← cellsP_app] at hO4
          have hS := HVB.out _ hB4
          refine wpAnyH_take (i := 11) (v := .pointer (some ⟨w.heap.size, k, none⟩)) rfl (by kernel_rfl) (by kernel_rfl) (by kernel_rfl) (fun _ _ _ h => h) (Or.inl ⟨by kernel_rfl, ?y11_8⟩) hS ?r11_8
          case y11_8 => intro W hS; obtain ⟨s0, s1⟩ := hS; go_simp; try with_reducible rfl
          try simp only [Act.put, List.getElem_toArray, List.getElem_cons_succ, List.getElem_cons_zero, List.setIfInBounds_toArray, List.set_cons_zero, List.set_cons_succ]
          clear hS
          have c12 := HVC.out _ hB4
          have z12 := HVF.out _ hB4
          obtain ⟨B9, c9, rfl⟩ := ownsRow_slice hO4
          refine heldS_one (i := 12) (by kernel_rfl) rfl (fun K hK => ?_)
          go_simp
          refine hK _ _ (HVS.out _ _ hB4) ?_
          clear hK K c12 z12
          try simp only [Act.put, List.getElem_toArray, List.getElem_cons_succ, List.getElem_cons_zero, List.setIfInBounds_toArray, List.set_cons_zero, List.set_cons_succ]
          refine wpAnyH_done (by kernel_rfl) ?_ _
          go_wp2_with fail
          go_meet
          case rel => exact ⟨_, B9, c9, rfl, rfl, hide ⟨hB4, hO4⟩⟩
      · go_simp
        have hB2 := hB1.alloc hB1.size (.cells #[.string (ofL p.b), .bool p.t] 59)
        have R8_2 := World.alloc_heap_new U1 (.cells #[.string (ofL p.b), .bool p.t] 59)
        have hO2 := hO1.alloc (.cells #[.string (ofL p.b), .bool p.t] 59)
        have hne8 : some U1.heap.size ≠ (Value.slice (some ⟨g1, 0, none⟩) 0 0).ownBlock := fun e => by have := (hO1.lt _ e.symm).2; omega
        obtain ⟨g8, hg8⟩ : ∃ g8, g8 = U1.heap.size := ⟨_, rfl⟩
        rw [← hg8] at R8_2 hne8 ⊢
        have HG8 := hide hg8
        clear hg8
        refine hK _ _ (HVB.out _ hB2) ?_
        clear hK K
        try simp only [Act.put, List.getElem_toArray, List.getElem_cons_succ, List.getElem_cons_zero, List.setIfInBounds_toArray, List.set_cons_zero, List.set_cons_succ]
        generalize U1.alloc (.cells #[.string (ofL p.b), .bool p.t] 59) = U2 at hB2 R8_2 hO2 ⊢
        refine heldS_one (i := 5) (by kernel_rfl) rfl (fun K hK => ?_)
        have c5 := HVC.out _ hB2
        go_simp
        refine hK _ _ (HVB.out _ hB2) ?_
        clear hK K c5
        try simp only [Act.put, List.getElem_toArray, List.getElem_cons_succ, List.getElem_cons_zero, List.setIfInBounds_toArray, List.set_cons_zero, List.set_cons_succ]
        refine heldS_one (i := 6) (by kernel_rfl) rfl (fun K hK => ?_)
        have hA := (HA.out _ hB2)
        refine step_append_pks rfl (.tmp 29) (.tmp 33) 27 rfl V.heap.size 59 i0 Try.underlying27 hi hz0 hz1 hz2 (.slice (some ⟨g1, 0, none⟩) 0 0) 0 [] rfl hO2 A _ c _ r.l rfl rfl hA (by have := HQ16.out; unfold maxLen; omega) (by have := HQ16.out; omega) hB2.size ?_
        intro v6 U3 hO3 hg
        have hB3 := hB2.grown hg hB2.size (fun r e => (hO2.lt r e).1)
        have hlt6 := (Array.getElem?_eq_some_iff.1 R8_2).1
        have R8_3 := (hg.block g8 hlt6 hne8).trans R8_2
        clear hlt6 hne8
        refine hK _ _ (HVB.out _ hB3) ?_
        clear hK K hg hA
        try simp only [Act.put, List.getElem_toArray, List.getElem_cons_succ, List.getElem_cons_zero, List.setIfInBounds_toArray, List.set_cons_zero, List.set_cons_succ]
        rw [Nat.zero_add, List.nil_append] at hO3
        refine heldS_one (i := 9) (by kernel_rfl) rfl (fun K hK => ?_)
        have hP := RdP_row R8_3
        refine step_append_pks rfl (.tmp 34) (.tmp 36) 27 rfl V.heap.size 59 i0 Try.underlying27 hi hz0 hz1 hz2 v6 _ _ rfl hO3 (some ⟨g8, 0, none⟩) 1 1 _ [p] rfl rfl hP (by have := HQ16.out; unfold maxLen; omega) (by have := HQ16.out; omega) hB3.size ?_
        intro v9 U4 hO4 hg
        have hB4 := hB3.grown hg hB3.size (fun r e => (hO3.lt r e).1)
        refine hK _ _ (HVB.out _ hB4) ?_
        clear hK K hg hP
        try simp only [Act.put, List.getElem_toArray, List.getElem_cons_succ, List.getElem_cons_zero, List.setIfInBounds_toArray, List.set_cons_zero, List.set_cons_succ]
        rw [← cellsP_app] at hO4
        have hS := HVB.out _ hB4
        refine wpAnyH_take (i := 11) (v := .pointer (some ⟨w.heap.size, k, none⟩)) rfl (by kernel_rfl) (by kernel_rfl) (by kernel_rfl) (fun _ _ _ h => h) (Or.inl ⟨by kernel_rfl, ?y11_9⟩) hS ?r11_9
        case y11_9 => intro W hS; obtain ⟨s0, s1⟩ := hS; go_simp; try with_reducible rfl
        try simp only [Act.put, List.getElem_toArray, List.getElem_cons_succ, List.getElem_cons_zero, List.setIfInBounds_toArray, List.set_cons_zero, List.set_cons_succ]
        clear hS
        have c12 := HVC.out _ hB4
        have z12 := HVF.out _ hB4
        obtain ⟨B9, c9, rfl⟩ := ownsRow_slice hO4
        refine heldS_one (i := 12) (by kernel_rfl) rfl (fun K hK => ?_)
        go_simp
        refine hK _ _ (HVS.out _ _ hB4) ?_
        clear hK K c12 z12
        try simp only [Act.put, List.getElem_toArray, List.getElem_cons_succ, List.getElem_cons_zero, List.setIfInBounds_toArray, List.set_cons_zero, List.set_cons_succ]
        refine wpAnyH_done (by kernel_rfl) ?_ _
        go_wp2_with fail
        go_meet
        case rel => exact ⟨_, B9, c9, rfl, rfl, hide ⟨hB4, hO4⟩⟩
    · have c5 := HVC.out _ hB0
      go_simp
      refine hK _ _ (HVB.out _ hB0) ?_
      clear hK K c5
      try simp only [Act.put, List.getElem_toArray, List.getElem_cons_succ, List.getElem_cons_zero, List.setIfInBounds_toArray, List.set_cons_zero, List.set_cons_succ]
      refine heldS_two (i := 1) (k := 8) (by kernel_rfl) rfl rfl (fun K hK => ?_) (fun K hK => ?_)
      · go_simp
        have hb := (Below.refl V.heap.size U0).alloc hB0.size (.cells #[] 59)
        have hB1 := hB0.alloc hB0.size (.cells #[] 59)
        have hO1 := World.ownsRow_lit (base := V.heap.size) (e := 59) (size := 2) U0 #[] 0 hB0.size (by decide) rfl
        obtain ⟨g1, hg1⟩ : ∃ g1, g1 = U0.heap.size := ⟨_, rfl⟩
        rw [← hg1] at hO1 ⊢
        have HG1 := hide hg1
        clear hg1
        refine hK _ _ (HVB.out _ hB1) ?_
        clear hK K hb
        try simp only [Act.put, List.getElem_toArray, List.getElem_cons_succ, List.getElem_cons_zero, List.setIfInBounds_toArray, List.set_cons_zero, List.set_cons_succ]
        generalize U0.alloc (.cells #[] 59) = U1 at hB1 hO1 ⊢
        refine heldS_two (i := 6) (k := 8) (by kernel_rfl) rfl rfl (fun K hK => ?_) (fun K hK => ?_)
        · have hA := (HA.out _ hB1)
          refine step_append_pks rfl (.tmp 29) (.tmp 33) 27 rfl V.heap.size 59 i0 Try.underlying27 hi hz0 hz1 hz2 (.slice (some ⟨g1, 0, none⟩) 0 0) 0 [] rfl hO1 A _ c _ r.l rfl rfl hA (by have := HQ16.out; unfold maxLen; omega) (by have := HQ16.out; omega) hB1.size ?_
          intro v6 U2 hO2 hg
          have hB2 := hB1.grown hg hB1.size (fun r e => (hO1.lt r e).1)
          refine hK _ _ (HVB.out _ hB2) ?_
          clear hK K hg hA
          try simp only [Act.put, List.getElem_toArray, List.getElem_cons_succ, List.getElem_cons_zero, List.setIfInBounds_toArray, List.set_cons_zero, List.set_cons_succ]
          rw [Nat.zero_add, List.nil_append] at hO2
          refine heldS_one (i := 8) (by kernel_rfl) rfl (fun K hK => ?_)
          go_simp
          have hB3 := hB2.alloc hB2.size (.cells #[.string (ofL p.b), .bool p.t] 59)
          have R8_3 := World.alloc_heap_new U2 (.cells #[.string (ofL p.b), .bool p.t] 59)
          have hO3 := hO2.alloc (.cells #[.string (ofL p.b), .bool p.t] 59)
          have hne8 : some U2.heap.size ≠ v6.ownBlock := fun e => by have := (hO2.lt _ e.symm).2; omega
          obtain ⟨g8, hg8⟩ : ∃ g8, g8 = U2.heap.size := ⟨_, rfl⟩
          rw [← hg8] at R8_3 hne8 ⊢
          have HG8 := hide hg8
          clear hg8
          refine hK _ _ (HVB.out _ hB3) ?_
          clear hK K
          try simp only [Act.put, List.getElem_toArray, List.getElem_cons_succ, List.getElem_cons_zero, List.setIfInBounds_toArray, List.set_cons_zero, List.set_cons_succ]
          generalize U2.alloc (.cells #[.string (ofL p.b), .bool p.t] 59) = U3 at hB3 R8_3 hO3 ⊢
          refine heldS_one (i := 9) (by kernel_rfl) rfl (fun K hK => ?_)
          have hP := RdP_row R8_3
          refine step_append_pks rfl (.tmp 34) (.tmp 36) 27 rfl V.heap.size 59 i0 Try.underlying27 hi hz0 hz1 hz2 v6 _ _ rfl hO3 (some ⟨g8, 0, none⟩) 1 1 _ [p] rfl rfl hP (by have := HQ16.out; unfold maxLen; omega) (by have := HQ16.out; omega) hB3.size ?_
          intro v9 U4 hO4 hg
          have hB4 := hB3.grown hg hB3.size (fun r e => (hO3.lt r e).1)
          refine hK _ _ (HVB.out _ hB4) ?_
          clear hK K hg hP
          try simp only [Act.put, List.getElem_toArray, List.getElem_cons_succ, List.getElem_cons_zero, List.setIfInBounds_toArray, List.set_cons_zero, List.set_cons_succ]
          rw [← cellsP_app] at hO4
          have hS := HVB.out _ hB4
          refine wpAnyH_take (i := 11) (v := .pointer (some ⟨w.heap.size, k, none⟩)) rfl (by kernel_rfl) (by kernel_rfl) (by kernel_rfl) (fun _ _ _ h => h) (Or.inl ⟨by kernel_rfl, ?y11_10⟩) hS ?r11_10
          case y11_10 => intro W hS; obtain ⟨s0, s1⟩ := hS; go_simp; try with_reducible rfl
          try simp only [Act.put, List.getElem_toArray, List.getElem_cons_succ, List.getElem_cons_zero, List.setIfInBounds_toArray, List.set_cons_zero, List.set_cons_succ]
          clear hS
          have c12 := HVC.out _ hB4
          have z12 := HVF.out _ hB4
          obtain ⟨B9, c9, rfl⟩ := ownsRow_slice hO4
          refine heldS_one (i := 12) (by kernel_rfl) rfl (fun K hK => ?_)
          go_simp
          refine hK _ _ (HVS.out _ _ hB4) ?_
          clear hK K c12 z12
          try simp only [Act.put, List.getElem_toArray, List.getElem_cons_succ, List.getElem_cons_zero, List.setIfInBounds_toArray, List.set_cons_zero, List.set_cons_succ]
          refine wpAnyH_done (by kernel_rfl) ?_ _
          go_wp2_with fail
          go_meet
          case rel => exact ⟨_, B9, c9, rfl, rfl, hide ⟨hB4, hO4⟩⟩
        · go_simp
          have hB2 := hB1.alloc hB1.size (.cells #[.string (ofL p.b), .bool p.t] 59)
          have R8_2 := World.alloc_heap_new U1 (.cells #[.string (ofL p.b), .bool p.t] 59)
          have hO2 := hO1.alloc (.cells #[.string (ofL p.b), .bool p.t] 59)
          have hne8 : some U1.heap.size ≠ (Value.slice (some ⟨g1, 0, none⟩) 0 0).ownBlock := fun e => by have := (hO1.lt _ e.symm).2; omega
          obtain ⟨g8, hg8⟩ : ∃ g8, g8 = U1.heap.size := ⟨_, rfl⟩
          rw [← hg8] at R8_2 hne8 ⊢
          have HG8 := hide hg8
          clear hg8
          refine hK _ _ (HVB.out _ hB2) ?_
          clear hK K
          try simp only [Act.put, List.getElem_toArray, List.getElem_cons_succ, List.getElem_cons_zero, List.setIfInBounds_toArray, List.set_cons_zero, List.set_cons_succ]
          generalize U1.alloc (.cells #[.string (ofL p.b), .bool p.t] 59) = U2 at hB2 R8_2 hO2 ⊢
          refine heldS_one (i := 6) (by kernel_rfl) rfl (fun K hK => ?_)
          have hA := (HA.out _ hB2)
          refine step_append_pks rfl (.tmp 29) (.tmp 33) 27 rfl V.heap.size 59 i0 Try.underlying27 hi hz0 hz1 hz2 (.slice (some ⟨g1, 0, none⟩) 0 0) 0 [] rfl hO2 A _ c _ r.l rfl rfl hA (by have := HQ16.out; unfold maxLen; omega) (by have := HQ16.out; omega) hB2.size ?_
          intro v6 U3 hO3 hg
          have hB3 := hB2.grown hg hB2.size (fun r e => (hO2.lt r e).1)
          have hlt6 := (Array.getElem?_eq_some_iff.1 R8_2).1
          have R8_3 := (hg.block g8 hlt6 hne8).trans R8_2
          clear hlt6 hne8
          refine hK _ _ (HVB.out _ hB3) ?_
          clear hK K hg hA
          try simp only [Act.put, List.getElem_toArray, List.getElem_cons_succ, List.getElem_cons_zero, List.setIfInBounds_toArray, List.set_cons_zero, List.set_cons_succ]
          rw [Nat.zero_add, List.nil_append] at hO3
          refine heldS_one (i := 9) (by kernel_rfl) rfl (fun K hK => ?_)
          have hP := RdP_row R8_3
          refine step_append_pks rfl (.tmp 34) (.tmp 36) 27 rfl V.heap.size 59 i0 Try.underlying27 hi hz0 hz1 hz2 v6 _ _ rfl hO3 (some ⟨g8, 0, none⟩) 1 1 _ [p] rfl rfl hP (by have := HQ16.out; unfold maxLen; omega) (by have := HQ16.out; omega) hB3.size ?_
          intro v9 U4 hO4 hg
          have hB4 := hB3.grown hg hB3.size (fun r e => (hO3.lt r e).1)
          refine hK _ _ (HVB.out _ hB4) ?_
          clear hK K hg hP
          try simp only [Act.put, List.getElem_toArray, List.getElem_cons_succ, List.getElem_cons_zero, List.setIfInBounds_toArray, List.set_cons_zero, List.set_cons_succ]
          rw [← cellsP_app] at hO4
          have hS := HVB.out _ hB4
          refine wpAnyH_take (i := 11) (v := .pointer (some ⟨w.heap.size, k, none⟩)) rfl (by kernel_rfl) (by kernel_rfl) (by kernel_rfl) (fun _ _ _ h => h) (Or.inl ⟨by kernel_rfl, ?y11_11⟩) hS ?r11_11
          case y11_11 => intro W hS; obtain ⟨s0, s1⟩ := hS; go_simp; try with_reducible rfl
          try simp only [Act.put, List.getElem_toArray, List.getElem_cons_succ, List.getElem_cons_zero, List.setIfInBounds_toArray, List.set_cons_zero, List.set_cons_succ]
          clear hS
          have c12 := HVC.out _ hB4
          have z12 := HVF.out _ hB4
          obtain ⟨B9, c9, rfl⟩ := ownsRow_slice hO4
          refine heldS_one (i := 12) (by kernel_rfl) rfl (fun K hK => ?_)
          go_simp
          refine hK _ _ (HVS.out _ _ hB4) ?_
          clear hK K c12 z12
          try simp only [Act.put, List.getElem_toArray, List.getElem_cons_succ, List.getElem_cons_zero, List.setIfInBounds_toArray, List.set_cons_zero, List.set_cons_succ]
          refine wpAnyH_done (by kernel_rfl) ?_ _
          go_wp2_with fail
          go_meet
          case rel => exact ⟨_, B9, c9, rfl, rfl, hide ⟨hB4, hO4⟩⟩
      · go_simp
        have hB1 := hB0.alloc hB0.size (.cells #[.string (ofL p.b), .bool p.t] 59)
        have R8_1 := World.alloc_heap_new U0 (.cells #[.string (ofL p.b), .bool p.t] 59)
        obtain ⟨g8, hg8⟩ : ∃ g8, g8 = U0.heap.size := ⟨_, rfl⟩
        rw [← hg8] at R8_1 ⊢
        have HG8 := hide hg8
        clear hg8
        refine hK _ _ (HVB.out _ hB1) ?_
        clear hK K
        try simp only [Act.put, List.getElem_toArray, List.getElem_cons_succ, List.getElem_cons_zero, List.setIfInBounds_toArray, List.set_cons_zero, List.set_cons_succ]
        generalize U0.alloc (.cells #[.string (ofL p.b), .bool p.t] 59) = U1 at hB1 R8_1 ⊢
        refine heldS_one (i := 1) (by kernel_rfl) rfl (fun K hK => ?_)
        go_simp
        have hb := (Below.refl V.heap.size U1).alloc hB1.size (.cells #[] 59)
        have hB2 := hB1.alloc hB1.size (.cells #[] 59)
        have hO2 := World.ownsRow_lit (base := V.heap.size) (e := 59) (size := 2) U1 #[] 0 hB1.size (by decide) rfl
        have R8_2 := (Below.heap_alloc U1 (.cells #[] 59) _ (Array.getElem?_eq_some_iff.1 R8_1).1).trans R8_1
        have hne8 : some g8 ≠ (Value.slice (some ⟨U1.heap.size, 0, none⟩) 0 0).ownBlock := by have := (Array.getElem?_eq_some_iff.1 R8_1).1; simp [Value.ownBlock]; omega
        obtain ⟨g1, hg1⟩ : ∃ g1, g1 = U1.heap.size := ⟨_, rfl⟩
        rw [← hg1] at hO2 hne8 ⊢
        have HG1 := hide hg1
        clear hg1
        refine hK _ _ (HVB.out _ hB2) ?_
        clear hK K hb
        try simp only [Act.put, List.getElem_toArray, List.getElem_cons_succ, List.getElem_cons_zero, List.setIfInBounds_toArray, List.set_cons_zero, List.set_cons_succ]
        generalize U1.alloc (.cells #[] 59) = U2 at hB2 hO2 R8_2 ⊢
        refine heldS_one (i := 6) (by kernel_rfl) rfl (fun K hK => ?_)
        have hA := (HA.out _ hB2)
        refine step_append_pks rfl (.tmp 29) (.tmp 33) 27 rfl V.heap.size 59 i0 Try.underlying27 hi hz0 hz1 hz2 (.slice (some ⟨g1, 0, none⟩) 0 0) 0 [] rfl hO2 A _ c _ r.l rfl rfl hA (by have := HQ16.out; unfold maxLen; omega) (by have := HQ16.out; omega) hB2.size ?_
        intro v6 U3 hO3 hg
        have hB3 := hB2.grown hg hB2.size (fun r e => (hO2.lt r e).1)
        have hlt6 := (Array.getElem?_eq_some_iff.1 R8_2).1
        have R8_3 := (hg.block g8 hlt6 hne8).trans R8_2
        clear hlt6 hne8
        refine hK _ _ (HVB.out _ hB3) ?_
        clear hK K hg hA
        try simp only [Act.put, List.getElem_toArray, List.getElem_cons_succ, List.getElem_cons_zero, List.setIfInBounds_toArray, List.set_cons_zero, List.set_cons_succ]
        rw [Nat.zero_add, List.nil_append] at hO3
        refine heldS_one (i := 9) (by kernel_rfl) rfl (fun K hK => ?_)
        have hP := RdP_row R8_3
        refine step_append_pks rfl (.tmp 34) (.tmp 36) 27 rfl V.heap.size 59 i0 Try.underlying27 hi hz0 hz1 hz2 v6 _ _ rfl hO3 (some ⟨g8, 0, none⟩) 1 1 _ [p] rfl rfl hP (by have := HQ16.out; unfold maxLen; omega) (by have := HQ16.out; omega) hB3.size ?_
        intro v9 U4 hO4 hg
        have hB4 := hB3.grown hg hB3.size (fun r e => (hO3.lt r e).1)
        refine hK _ _ (HVB.out _ hB4) ?_
        clear hK K hg hP
        try simp only [Act.put, List.getElem_toArray, List.getElem_cons_succ, List.getElem_cons_zero, List.setIfInBounds_toArray, List.set_cons_zero, List.set_cons_succ]
        rw [← cellsP_app] at hO4
        have hS := HVB.out _ hB4
        refine wpAnyH_take (i := 11) (v := .pointer (some ⟨w.heap.size, k, none⟩)) rfl (by kernel_rfl) (by kernel_rfl) (by kernel_rfl) (fun _ _ _ h => h) (Or.inl ⟨by kernel_rfl, ?y11_12⟩) hS ?r11_12
        case y11_12 => intro W hS; obtain ⟨s0, s1⟩ := hS; go_simp; try with_reducible rfl
        try simp only [Act.put, List.getElem_toArray, List.getElem_cons_succ, List.getElem_cons_zero, List.setIfInBounds_toArray, List.set_cons_zero, List.set_cons_succ]
        clear hS
        have c12 := HVC.out _ hB4
        have z12 := HVF.out _ hB4
        obtain ⟨B9, c9, rfl⟩ := ownsRow_slice hO4
        refine heldS_one (i := 12) (by kernel_rfl) rfl (fun K hK => ?_)
        go_simp
        refine hK _ _ (HVS.out _ _ hB4) ?_
        clear hK K c12 z12
        try simp only [Act.put, List.getElem_toArray, List.getElem_cons_succ, List.getElem_cons_zero, List.setIfInBounds_toArray, List.set_cons_zero, List.set_cons_succ]
        refine wpAnyH_done (by kernel_rfl) ?_ _
        go_wp2_with fail
        go_meet
        case rel => exact ⟨_, B9, c9, rfl, rfl, hide ⟨hB4, hO4⟩⟩
    · go_simp
      have hB1 := hB0.alloc hB0.size (.cells #[.string (ofL p.b), .bool p.t] 59)
      have R8_1 := World.alloc_heap_new U0 (.cells #[.string (ofL p.b), .bool p.t] 59)
      obtain ⟨g8, hg8⟩ : ∃ g8, g8 = U0.heap.size := ⟨_, rfl⟩
      rw [← hg8] at R8_1 ⊢
      have HG8 := hide hg8
      clear hg8
      refine hK _ _ (HVB.out _ hB1) ?_
      clear hK K
      try simp only [Act.put, List.getElem_toArray, List.getElem_cons_succ, List.getElem_cons_zero, List.setIfInBounds_toArray, List.set_cons_zero, List.set_cons_succ]
      generalize U0.alloc (.cells #[.string (ofL p.b), .bool p.t] 59) = U1 at hB1 R8_1 ⊢
      refine heldS_two (i := 1) (k := 5) (by kernel_rfl) rfl rfl (fun K hK => ?_) (fun K hK => ?_)
      · go_simp
        have hb := (Below.refl V.heap.size U1).alloc hB1.size (.cells #[] 59)
        have hB2 := hB1.alloc hB1.size (.cells #[] 59)
        have hO2 := World.ownsRow_lit (base := V.heap.size) (e := 59) (size := 2) U1 #[] 0 hB1.size (by decide) rfl
        have R8_2 := (Below.heap_alloc U1 (.cells #[] 59) _ (Array.getElem?_eq_some_iff.1 R8_1).1).trans R8_1
        have hne8 : some g8 ≠ (Value.slice (some ⟨U1.heap.size, 0, none⟩) 0 0).ownBlock := by have := (Array.getElem?_eq_some_iff.1 R8_1).1; simp [Value.ownBlock]; omega
        obtain ⟨g1, hg1⟩ : ∃ g1, g1 = U1.heap.size := ⟨_, rfl⟩
        rw [← hg1] at hO2 hne8 ⊢
        have HG1 := hide hg1
        clear hg1
        refine hK _ _ (HVB.out _ hB2) ?_
        clear hK K hb
        try simp only [Act.put, List.getElem_toArray, List.getElem_cons_succ, List.getElem_cons_zero, List.setIfInBounds_toArray, List.set_cons_zero, List.set_cons_succ]
        generalize U1.alloc (.cells #[] 59) = U2 at hB2 hO2 R8_2 ⊢
        refine heldS_one (i := 5) (by kernel_rfl) rfl (fun K hK => ?_)
        have c5 := HVC.out _ hB2
        go_simp
        refine hK _ _ (HVB.out _ hB2) ?_
        clear hK K c5
        try simp only [Act.put, List.getElem_toArray, List.getElem_cons_succ, List.getElem_cons_zero, List.setIfInBounds_toArray, List.set_cons_zero, List.set_cons_succ]
        refine heldS_one (i := 6) (by kernel_rfl) rfl (fun K hK => ?_)
        have hA := (HA.out _ hB2)
        refine step_append_pks rfl (.tmp 29) (.tmp 33) 27 rfl V.heap.size 59 i0 Try.underlying27 hi hz0 hz1 hz2 (.slice (some ⟨g1, 0, none⟩) 0 0) 0 [] rfl hO2 A _ c _ r.l rfl rfl hA (by have := HQ16.out; unfold maxLen; omega) (by have := HQ16.out; omega) hB2.size ?_
        intro v6 U3 hO3 hg
        have hB3 := hB2.grown hg hB2.size (fun r e => (hO2.lt r e).1)
        have hlt6 := (Array.getElem?_eq_some_iff.1 R8_2).1
        have R8_3 := (hg.block g8 hlt6 hne8).trans R8_2
        clear hlt6 hne8
        refine hK _ _ (HVB.out _ hB3) ?_
        clear hK K hg hA
        try simp only [Act.put, List.getElem_toArray, List.getElem_cons_succ, List.getElem_cons_zero, List.setIfInBounds_toArray, List.set_cons_zero, List.set_cons_succ]
        rw [Nat.zero_add, List.nil_append] at hO3
        refine heldS_one (i := 9) (by kernel_rfl) rfl (fun K hK => ?_)
        have hP := RdP_row R8_3
        refine step_append_pks rfl (.tmp 34) (.tmp 36) 27 rfl V.heap.size 59 i0 Try.underlying27 hi hz0 hz1 hz2 v6 _ _ rfl hO3 (some ⟨g8, 0, none⟩) 1 1 _ [p] rfl rfl hP (by have := HQ16.out; unfold maxLen; omega) (by have := HQ16.out; omega) hB3.size ?_
        intro v9 U4 hO4 hg
        have hB4 := hB3.grown hg hB3.size (fun r e => (hO3.lt r e).1)
        refine hK _ _ (HVB.out _ hB4) ?_
        clear hK K hg hP
        try simp only [Act.put, List.getElem_toArray, List.getElem_cons_succ, List.getElem_cons_zero, List.setIfInBounds_toArray, List.set_cons_zero, List.set_cons_succ]
        rw [← cellsP_app] at hO4
        have hS := HVB.out _ hB4
        refine wpAnyH_take (i := 11) (v := .pointer (some ⟨w.heap.size, k, none⟩)) rfl (by kernel_rfl) (by kernel_rfl) (by kernel_rfl) (fun _ _ _ h => h) (Or.inl ⟨by kernel_rfl, ?y11_13⟩) hS ?r11_13
        case y11_13 => intro W hS; obtain ⟨s0, s1⟩ := hS; go_simp; try with_reducible rfl
        try simp only [Act.put, List.getElem_toArray, List.getElem_cons_succ, List.getElem_cons_zero, List.setIfInBounds_toArray, List.set_cons_zero, List.set_cons_succ]
        clear hS
        have c12 := HVC.out _ hB4
        have z12 := HVF.out _ hB4
        obtain ⟨B9, c9, rfl⟩ := ownsRow_slice hO4
        refine heldS_one (i := 12) (by kernel_rfl) rfl (fun K hK => ?_)
        go_simp
        refine hK _ _ (HVS.out _ _ hB4) ?_
        clear hK K c12 z12
        try simp only [Act.put, List.getElem_toArray, List.getElem_cons_succ, List.getElem_cons_zero, List.setIfInBounds_toArray, List.set_cons_zero, List.set_cons_succ]
        refine wpAnyH_done (by kernel_rfl) ?_ _
        go_wp2_with fail
        go_meet
        case rel => exact ⟨_, B9, c9, rfl, rfl, hide ⟨hB4, hO4⟩⟩
      · have c5 := HVC.out _ hB1
        go_simp
        refine hK _ _ (HVB.out _ hB1) ?_
        clear hK K c5
        try simp only [Act.put, List.getElem_toArray, List.getElem_cons_succ, List.getElem_cons_zero, List.setIfInBounds_toArray, List.set_cons_zero, List.set_cons_succ]
        refine heldS_one (i := 1) (by kernel_rfl) rfl (fun K hK => ?_)
        go_simp
        have hb := (Below.refl V.heap.size U1).alloc hB1.size (.cells #[] 59)
        have hB2 := hB1.alloc hB1.size (.cells #[] 59)
        have hO2 := World.ownsRow_lit (base := V.heap.size) (e := 59) (size := 2) U1 #[] 0 hB1.size (by decide) rfl
        have R8_2 := (Below.heap_alloc U1 (.cells #[] 59) _ (Array.getElem?_eq_some_iff.1 R8_1).1).trans R8_1
        have hne8 : some g8 ≠ (Value.slice (some ⟨U1.heap.size, 0, none⟩) 0 0).ownBlock := by have := (Array.getElem?_eq_some_iff.1 R8_1).1; simp [Value.ownBlock]; omega
        obtain ⟨g1, hg1⟩ : ∃ g1, g1 = U1.heap.size := ⟨_, rfl⟩
        rw [← hg1] at hO2 hne8 ⊢
        have HG1 := hide hg1
        clear hg1
        refine hK _ _ (HVB.out _ hB2) ?_
        clear hK K hb
        try simp only [Act.put, List.getElem_toArray, List.getElem_cons_succ, List.getElem_cons_zero, List.setIfInBounds_toArray, List.set_cons_zero, List.set_cons_succ]
        generalize U1.alloc (.cells #[] 59) = U2 at hB2 hO2 R8_2 ⊢
        refine heldS_one (i := 6) (by kernel_rfl) rfl (fun K hK => ?_)
        have hA := (HA.out _ hB2)
        refine step_append_pks rfl (.tmp 29) (.tmp 33) 27 rfl V.heap.size 59 i0 Try.underlying27 hi hz0 hz1 hz2 (.slice (some ⟨g1, 0, none⟩) 0 0) 0 [] rfl hO2 A _ c _ r.l rfl rfl hA (by have := HQ16.out; unfold maxLen; omega) (by have := HQ16.out; omega) hB2.size ?_
        intro v6 U3 hO3 hg
        have hB3 := hB2.grown hg hB2.size (fun r e => (hO2.lt r e).1)
        have hlt6 := (Array.getElem?_eq_some_iff.1 R8_2).1
        have R8_3 := (hg.block g8 hlt6 hne8).trans R8_2
        clear hlt6 hne8
        refine hK _ _ (HVB.out _ hB3) ?_
        clear hK K hg hA
        try simp only [Act.put, List.getElem_toArray, List.getElem_cons_succ, List.getElem_cons_zero, List.setIfInBounds_toArray, List.set_cons_zero, List.set_cons_succ]
        rw [Nat.zero_add, List.nil_append] at hO3
        refine heldS_one (i := 9) (by kernel_rfl) rfl (fun K hK => ?_)
        have hP := RdP_row R8_3
        refine step_append_pks rfl (.tmp 34) (.tmp 36) 27 rfl V.heap.size 59 i0 Try.underlying27 hi hz0 hz1 hz2 v6 _ _ rfl hO3 (some ⟨g8, 0, none⟩) 1 1 _ [p] rfl rfl hP (by have := HQ16.out; unfold maxLen; omega) (by have := HQ16.out; omega) hB3.size ?_
        intro v9 U4 hO4 hg
        have hB4 := hB3.grown hg hB3.size (fun r e => (hO3.lt r e).1)
        refine hK _ _ (HVB.out _ hB4) ?_
        clear hK K hg hP
        try simp only [Act.put, List.getElem_toArray, List.getElem_cons_succ, List.getElem_cons_zero, List.setIfInBounds_toArray, List.set_cons_zero, List.set_cons_succ]
        rw [← cellsP_app] at hO4
        have hS := HVB.out _ hB4
        refine wpAnyH_take (i := 11) (v := .pointer (some ⟨w.heap.size, k, none⟩)) rfl (by kernel_rfl) (by kernel_rfl) (by kernel_rfl) (fun _ _ _ h => h) (Or.inl ⟨by kernel_rfl, ?y11_14⟩) hS ?r11_14
        case y11_14 => intro W hS; obtain ⟨s0, s1⟩ := hS; go_simp; try with_reducible rfl
        try simp only [Act.put, List.getElem_toArray, List.getElem_cons_succ, List.getElem_cons_zero, List.setIfInBounds_toArray, List.set_cons_zero, List.set_cons_succ]
        clear hS
        have c12 := HVC.out _ hB4
        have z12 := HVF.out _ hB4
        obtain ⟨B9, c9, rfl⟩ := ownsRow_slice hO4
        refine heldS_one (i := 12) (by kernel_rfl) rfl (fun K hK => ?_)
        go_simp
        refine hK _ _ (HVS.out _ _ hB4) ?_
        clear hK K c12 z12
        try simp only [Act.put, List.getElem_toArray, List.getElem_cons_succ, List.getElem_cons_zero, List.setIfInBounds_toArray, List.set_cons_zero, List.set_cons_succ]
        refine wpAnyH_done (by kernel_rfl) ?_ _
        go_wp2_with fail
        go_meet
        case rel => exact ⟨_, B9, c9, rfl, rfl, hide ⟨hB4, hO4⟩⟩
  case rest =>
    obtain ⟨W9, B9, c9, rfl, rfl, HQ⟩ := hcut
    have hB9 := HQ.out.1
    have q0 := heap_setCell_same W9 w.heap.size k _ _ (.slice B9 (r.l.length + 1) c9) ((hB9.block _ (Array.getElem?_eq_some_iff.1 r0).1).trans r0)
    have q2 : (W9.setCell ⟨w.heap.size, k, none⟩ (.slice B9 (r.l.length + 1) c9)).heap[w.heap.size + 1 + 1]? = _ := (heap_setCell_other W9 ⟨w.heap.size, k, none⟩ _ (.slice B9 (r.l.length + 1) c9) (by simp; omega)).trans ((hB9.block _ (Array.getElem?_eq_some_iff.1 r2).1).trans r2)
    have HB := hide (show Below w.heap.size w (W9.setCell ⟨w.heap.size, k, none⟩ (.slice B9 (r.l.length + 1) c9)) ∧ w.heap.size + 2 < V.heap.size from ⟨(hW.trans (hB9.mono hW.size)).setCell (p := ⟨w.heap.size, k, none⟩) (Nat.le_refl _) _, (Array.getElem?_eq_some_iff.1 r2).1⟩)
    have hlt2 : w.heap.size + 2 < V.heap.size := (Array.getElem?_eq_some_iff.1 r2).1
    have ho : (W9.setCell ⟨w.heap.size, k, none⟩ (.slice B9 (r.l.length + 1) c9)).ownsRow V.heap.size 59 2 (.slice B9 (r.l.length + 1) c9) (r.l.length + 1) (cellsP (r.l ++ [p])) := own_off HQ.out.2 w.heap.size (by omega) k _
    have HO := hide (And.intro ho hlt2)
    clear ho hlt2
    have hXs : X2.size = 6 := HX.out
    have hsz : (Try.prog.info? 31).map (·.size) = some (X2.setIfInBounds k (.slice B9 (r.l.length + 1) c9)).size := by rw [Array.size_setIfInBounds, hXs]; kernel_rfl
    have hone := one_set H1.out k (.slice B9 (r.l.length + 1) c9) rfl
    have hlast : ∀ U', U'.ownsRow w.heap.size 59 2 (.slice B9 (r.l.length + 1) c9) (r.l.length + 1) (cellsP (r.l ++ [p])) → Below w.heap.size w U' → PTo w X2 k (r.put p) (X2.setIfInBounds k (.slice B9 (r.l.length + 1) c9)) U' := by
      intro U' hrd hbl
      rw [HP.out]
      refine ⟨B9, c9, by rw [Array.size_setIfInBounds, hXs], hone, ⟨?_, ?_, ?_, ?_⟩, fun j h1 h2 h3 => (get_ne h1).trans (HOFF.out j h1 h2 h3), hbl⟩
      · rw [get_eq (by omega), List.length_append]; rfl
      · rw [get_ne (by omega)]; exact hS.sent
      · rw [get_ne (by omega)]; exact hS.lost
      · rw [List.length_append]; exact hrd
    have HL := hide hlast
    clear hlast hB9 HQ HVS HVF HVC HVB HA hS r0 r1 r2 hW
    generalize (W9.setCell ⟨w.heap.size, k, none⟩ (.slice B9 (r.l.length + 1) c9)) = U at q0 q2 HO HB ⊢
    have HSZ := hide hsz
    have hall : (X2.setIfInBounds k (.slice B9 (r.l.length + 1) c9)).all (·.oneCell') = true := Array.all_eq_true_iff_forall_mem.2 (fun x hx => hone x (Array.mem_toList_iff.2 hx))
    have HA1 := hide hall
    have H6 := hide (show (X2.setIfInBounds k (.slice B9 (r.l.length + 1) c9)).size = 6 by rw [Array.size_setIfInBounds, hXs])
    clear hsz hone hall hXs
    generalize X2.setIfInBounds k (.slice B9 (r.l.length + 1) c9) = Y at q0 HL HSZ HA1 H6 ⊢
    go_wp2_with (first
      | (refine wpList_load_row rfl 31 (.tmp 3) rfl w.heap.size rfl 31 Y (0, 0) _ q0 Try.underlying31 rfl HSZ.out ?_)
      | (refine wpList_store_row rfl 31 (.tmp 6) (.tmp 40) rfl (w.heap.size + 1 + 1) Y rfl rfl 31 _ q2 HSZ.out (by rw [H6.out]; rfl) HA1.out ?_))
    refine bodyPost_ret (v := .agg Y) (results_cell_row rfl _ _ (w.heap.size + 1 + 1) 31 Y (0, 0) _ rfl (setRow_heap U _ _ Y _ _ q2) Try.underlying31 rfl HSZ.out) rfl ⟨Y, rfl, HL.out _ (ownsRow_lowerP (own_row HO.out.1 (w.heap.size + 1 + 1) (by have := HO.out.2; omega) Y) (by have := HO.out.2; omega)) (below_row HB.out.1 (by omega) Y)⟩

theorem lose_of (q : Way) (A : Option Addr) (c : Nat) (B : Nat) (w : World) (h : RdP w B A q.l) (hc : q.l.length ≤ c) (hn : q.l.length = 16) : ∃ ad, A = some ad ∧ RdP w B (some (ad.add 2)) (q.lose 0).l ∧ (q.lose 0).l.length = 15 := by
  have e : (q.lose 0).l = q.l.drop 1 := by show q.l.eraseIdx 0 = _; simp
  obtain ⟨ad, rfl, _⟩ := h 0 q.l[0] (List.getElem?_eq_getElem (by omega))
  have hd := h.drop (k := 1) hc
  rw [if_neg (by omega)] at hd
  exact ⟨ad, rfl, by rw [e]; exact hd, by rw [e, List.length_drop, hn]⟩
theorem slP1 (ad : Addr) (c : Nat) (hc : 16 ≤ c) (w : World) : (Instr.slice 27 (.slice (some ad) 16 c) (some (.int .i64 1)) none none).run Try.prog w = .ok (.slice (some (ad.add 2)) 15 (c - 1)) w := by
  have h2 : ¬ c = 1 := by omega
  simp [Instr.slice, Instr.sliceBounds, Instr.sliceBound, asIntOf, run_underlying Try.underlying27, go_sem, h2]
set_option maxHeartbeats 4000000 in
theorem refPut_full (k : Nat) (hk : k < 2) (X : Array Value) (q : Way) (p : Pk) (A : Option Addr) (c : Nat) (w : World) (hX : X.size = 6) (h1 : ∀ v ∈ X.toList, v.oneCell' = true) (h : SAt w X k q A c) (hr : q.l.length = 16) (hlo : q.lost ≤ 1000000) :
    Calls Try.prog 19 #[.agg X, .int .i64 k, .agg p.cells] w fun e w' => ∃ X', e = .returned (.agg X') ∧ PTo w X k (q.put p) X' w' := by
  obtain ⟨i0, hi, hz0, hz1, hz2⟩ := infoP_parts info_rpk
  obtain ⟨r0, r1, r2, hW⟩ := rows3 w X p.cells #[.slice none 0 0, .slice none 0 0, .int .i64 0, .int .i64 0, .int .i64 0, .int .i64 0] 31 59 31
  have hS := h.step hW
  have hk2 : (k : Int) < 2 := by omega
  have hlo2 : (q.lost : Int) ≤ 1000000 := by omega
  have e0 := (cell_of_row _ _ k _ _ _ r0).trans h.row
  rw [hr] at e0
  have HP := hide (show q.put p = { q.lose 0 with l := (q.lose 0).l ++ [p] } from by unfold Way.put; rw [if_pos hr])
  have H1 := hide h1
  have HX := hide hX
  obtain ⟨ad, hAd, hrd0, hlen⟩ := lose_of q A c _ _ h.rd h.cap hr
  have hsl := fun W => slP1 ad c (by have := h.cap; omega) W
  obtain ⟨A2, hA2⟩ : ∃ A2, A2 = some (ad.add 2) := ⟨_, rfl⟩
  rw [← hA2] at hrd0
  simp only [← hA2] at hsl
  obtain ⟨c2, hc2⟩ : ∃ c2, c2 = c - 1 := ⟨_, rfl⟩
  simp only [← hc2] at hsl
  have HCC := hide hc2
  clear hA2 hc2
  unfold Pk.cells at *
  subst hAd
  have HRB := hide (show RdP w w.heap.size A2 (q.lose 0).l from hrd0)
  have HLN := hide hlen
  have HR := hide hr
  have HCAP := hide h.cap
  have HSN := hide h.sent
  have HLO := hide h.lost
  clear h h1 hr hrd0 hlen hS
  go_enter Try.func19, Try.ntmps19
  go_upto_region 2 with fail
  generalize (((w.alloc (.cells X 31)).alloc (.cells #[.string (ofL p.b), .bool p.t] 59)).alloc (.cells #[.slice none 0 0, .slice none 0 0, .int .i64 0, .int .i64 0, .int .i64 0, .int .i64 0] 31)) = U at r0 r1 r2 hW e0 ⊢
  have z0 : U.frozen? ⟨w.heap.size, k, none⟩ = false := frozen_of_row _ _ _ _ _ r0
  have r0b := heap_setCell_same U w.heap.size k _ _ (.slice A2 15 c2) r0
  go_upto_region 3 with fail
  have r1b := (heap_setCell_other U ⟨w.heap.size, k, none⟩ _ (.slice A2 15 c2) (by simp)).trans r1
  have r2b := (heap_setCell_other U ⟨w.heap.size, k, none⟩ _ (.slice A2 15 c2) (by simp)).trans r2
  have hWb := hW.setCell (p := ⟨w.heap.size, k, none⟩) (Nat.le_refl _) (.slice A2 15 c2)
  have hrdb : RdP (U.setCell ⟨w.heap.size, k, none⟩ (.slice A2 15 c2)) w.heap.size A2 (q.lose 0).l := HRB.out.below hWb (Nat.le_refl _)
  clear e0 z0 hsl r0 r1 r2 hW
  generalize U.setCell ⟨w.heap.size, k, none⟩ (.slice A2 15 c2) = U2 at r0b r1b r2b hWb hrdb ⊢
  have c4 : U2.cell? ⟨w.heap.size, 4 + k, none⟩ = some (.int .i64 q.lost) := by rw [cell_of_row _ _ _ _ _ _ r0b, get_ne (by omega)]; exact HLO.out
  have z4 : U2.frozen? ⟨w.heap.size, 4 + k, none⟩ = false := frozen_of_row _ _ _ _ _ r0b
  have r0 := heap_setCell_same U2 w.heap.size (4 + k) _ _ (.int .i64 ((q.lost : Int) + 1)) r0b
  have r1 := (heap_setCell_other U2 ⟨w.heap.size, 4 + k, none⟩ _ (.int .i64 ((q.lost : Int) + 1)) (by simp)).trans r1b
  have r2 := (heap_setCell_other U2 ⟨w.heap.size, 4 + k, none⟩ _ (.int .i64 ((q.lost : Int) + 1)) (by simp)).trans r2b
  have hW := hWb.setCell (p := ⟨w.heap.size, 4 + k, none⟩) (Nat.le_refl _) (.int .i64 ((q.lost : Int) + 1))
  have hrdc : RdP (U2.setCell ⟨w.heap.size, 4 + k, none⟩ (.int .i64 ((q.lost : Int) + 1))) w.heap.size A2 (q.lose 0).l := HRB.out.below hW (Nat.le_refl _)
  go_upto_region 4 with fail
  clear c4 z4 r0b r1b r2b hWb hrdb
  generalize U2.setCell ⟨w.heap.size, 4 + k, none⟩ (.int .i64 ((q.lost : Int) + 1)) = V at r0 r1 r2 hW hrdc ⊢
  have hs6 : X.size = 6 := HX.out
  have hS : SAt V ((X.setIfInBounds k (.slice A2 15 c2)).setIfInBounds (4 + k) (.int .i64 ((q.lost : Int) + 1))) k (q.lose 0) A2 c2 := by
    refine ⟨?_, ?_, ?_, ?_, hrdc.mono hW.size⟩
    · rw [get_ne (by omega), get_eq (by omega), HLN.out]
    · rw [get_ne (by omega), get_ne (by omega)]; exact HSN.out
    · rw [get_eq (by simp; omega)]; rfl
    · rw [HLN.out]; have := HCAP.out; have := HR.out; have := HCC.out; omega
  have e0 := (cell_of_row _ _ k _ _ _ r0).trans hS.row
  have HOFF := hide (fun (j : Nat) (h1 : j ≠ k) (_ : j ≠ 2 + k) (h3 : j ≠ 4 + k) => (show ((X.setIfInBounds k (.slice A2 15 c2)).setIfInBounds (4 + k) (.int .i64 ((q.lost : Int) + 1)))[j]? = X[j]? by rw [get_ne h3, get_ne h1]))
  have H1 := hide (one_set (one_set H1.out k (.slice A2 15 c2) rfl) (4 + k) (.int .i64 ((q.lost : Int) + 1)) rfl)
  have HX := hide (show ((X.setIfInBounds k (.slice A2 15 c2)).setIfInBounds (4 + k) (.int .i64 ((q.lost : Int) + 1))).size = 6 by rw [Array.size_setIfInBounds, Array.size_setIfInBounds, hs6])
  have HQ16 := hide (show (q.lose 0).l.length < 16 by rw [HLN.out]; decide)
  clear hs6 hX hrdc HRB HLN HR HCAP HSN HLO
  generalize ((X.setIfInBounds k (.slice A2 15 c2)).setIfInBounds (4 + k) (.int .i64 ((q.lost : Int) + 1))) = X2 at r0 hS HOFF H1 HX ⊢
  generalize hrq : q.lose 0 = r at hS HP HQ16 e0
  have HRQ := hide hrq
  clear hrq
  have HA := hide (fun W (b : Below V.heap.size V W) => hS.rd.step b)
  have HVB := hide (fun (W : World) (b : Below V.heap.size V W) => (⟨(cell_of_row _ _ 0 _ _ _ ((b.block _ (Array.getElem?_eq_some_iff.1 r1).1).trans r1)), (cell_of_row _ _ 1 _ _ _ ((b.block _ (Array.getElem?_eq_some_iff.1 r1).1).trans r1))⟩ : W.cell? ⟨w.heap.size + 1, 0, none⟩ = some (.string (ofL p.b)) ∧ W.cell? ⟨w.heap.size + 1, 1, none⟩ = some (.bool p.t)))
  have HVC := hide (fun (W : World) (b : Below V.heap.size V W) => (b.cell (p := ⟨w.heap.size, k, none⟩) (Array.getElem?_eq_some_iff.1 r0).1).trans e0)
  have HVF := hide (fun (W : World) (b : Below V.heap.size V W) => frozen_of_row _ _ k _ _ ((b.block _ (Array.getElem?_eq_some_iff.1 r0).1).trans r0))
  have HVS := hide (fun (W : World) (v : Value) (b : Below V.heap.size V W) => (⟨(cell_of_row _ _ 0 _ _ _ ((heap_setCell_other W ⟨w.heap.size, k, none⟩ _ v (by simp)).trans ((b.block _ (Array.getElem?_eq_some_iff.1 r1).1).trans r1))), (cell_of_row _ _ 1 _ _ _ ((heap_setCell_other W ⟨w.heap.size, k, none⟩ _ v (by simp)).trans ((b.block _ (Array.getElem?_eq_some_iff.1 r1).1).trans r1)))⟩ : (W.setCell ⟨w.heap.size, k, none⟩ v).cell? ⟨w.heap.size + 1, 0, none⟩ = some (.string (ofL p.b)) ∧ (W.setCell ⟨w.heap.size, k, none⟩ v).cell? ⟨w.heap.size + 1, 1, none⟩ = some (.bool p.t)))
  clear e0
  go_cut [37] (fun x wx => ∃ W9 B9 c9, x = .slice B9 (r.l.length + 1) c9 ∧ wx = W9.setCell ⟨w.heap.size, k, none⟩ (.slice B9 (r.l.length + 1) c9) ∧ Hid (Below V.heap.size V W9 ∧ W9.ownsRow V.heap.size 59 2 (.slice B9 (r.l.length + 1) c9) (r.l.length + 1) (cellsP (r.l ++ [p]))))
  case first =>
    refine wp_region_held (by kernel_rfl) (S := fun W => W.cell? ⟨w.heap.size + 1, 0, none⟩ = some (.string (ofL p.b)) ∧ W.cell? ⟨w.heap.size + 1, 1, none⟩ = some (.bool p.t)) ?_
    change wpAnyH _ _ _ _ _ _ _ _ (World.drew _)
    have hS := HVB.out _ (Below.refl V.heap.size V).drew
    refine wpAnyH_take (i := 0) (v := .int .i64 k) rfl (by kernel_rfl) (by kernel_rfl) (by kernel_rfl) (fun _ _ _ h => h) (Or.inl ⟨by kernel_rfl, ?y0_1⟩) hS ?r0_1
    case y0_1 => intro W hS; obtain ⟨s0, s1⟩ := hS; go_simp; try with_reducible rfl
    try simp only [Act.put, List.getElem_toArray, List.getElem_cons_zero, List.setIfInBounds_toArray, List.set_cons_zero, List.set_cons_succ]
    refine wpAnyH_take (i := 2) (v := .int .i64 k) rfl (by kernel_rfl) (by kernel_rfl) (by kernel_rfl) (fun _ _ _ h => h) (Or.inl ⟨by kernel_rfl, ?y2_2⟩) hS ?r2_2
    case y2_2 => intro W hS; obtain ⟨s0, s1⟩ := hS; go_simp; try with_reducible rfl
    try simp only [Act.put, List.getElem_toArray, List.getElem_cons_succ, List.getElem_cons_zero, List.setIfInBounds_toArray, List.set_cons_zero, List.set_cons_succ]
    refine wpAnyH_take (i := 3) (v := .pointer (some ⟨w.heap.size, 0, none⟩)) rfl (by kernel_rfl) (by kernel_rfl) (by kernel_rfl) (fun _ _ _ h => h) (Or.inl ⟨by kernel_rfl, ?y3_3⟩) hS ?r3_3
    case y3_3 => intro W hS; obtain ⟨s0, s1⟩ := hS; go_simp; try with_reducible rfl
    try simp only [Act.put, List.getElem_toArray, List.getElem_cons_succ, List.getElem_cons_zero, List.setIfInBounds_toArray, List.set_cons_zero, List.set_cons_succ]
    refine wpAnyH_take (i := 4) (v := .pointer (some ⟨w.heap.size, k, none⟩)) rfl (by kernel_rfl) (by kernel_rfl) (by kernel_rfl) (fun _ _ _ h => h) (Or.inl ⟨by kernel_rfl, ?y4_4⟩) hS ?r4_4
    case y4_4 => intro W hS; obtain ⟨s0, s1⟩ := hS; go_simp; try with_reducible rfl
    try simp only [Act.put, List.getElem_toArray, List.getElem_cons_succ, List.getElem_cons_zero, List.setIfInBounds_toArray, List.set_cons_zero, List.set_cons_succ]
    refine wpAnyH_take (i := 7) (v := .agg #[.string (ofL p.b), .bool p.t]) rfl (by kernel_rfl) (by kernel_rfl) (by kernel_rfl) (fun _ _ _ h => h) (Or.inl ⟨by kernel_rfl, ?y7_5⟩) hS ?r7_5
    case y7_5 => intro W hS; obtain ⟨s0, s1⟩ := hS; go_simp; try with_reducible rfl
    try simp only [Act.put, List.getElem_toArray, List.getElem_cons_succ, List.getElem_cons_zero, List.setIfInBounds_toArray, List.set_cons_zero, List.set_cons_succ]
    refine wpAnyH_take (i := 10) (v := .pointer (some ⟨w.heap.size, 0, none⟩)) rfl (by kernel_rfl) (by kernel_rfl) (by kernel_rfl) (fun _ _ _ h => h) (Or.inl ⟨by kernel_rfl, ?y10_6⟩) hS ?r10_6
    case y10_6 => intro W hS; obtain ⟨s0, s1⟩ := hS; go_simp; try with_reducible rfl
    try simp only [Act.put, List.getElem_toArray, List.getElem_cons_succ, List.getElem_cons_zero, List.setIfInBounds_toArray, List.set_cons_zero, List.set_cons_succ]
    clear hS
    have hB0 := (Below.refl V.heap.size V).drew
    generalize World.drew V = U0 at hB0 ⊢
    refine heldS_three (i := 1) (j := 5) (k := 8) (by kernel_rfl) rfl rfl rfl (fun K hK => ?_) (fun K hK => ?_) (fun K hK => ?_)
    · go_simp
      have hb := (Below.refl V.heap.size U0).alloc hB0.size (.cells #[] 59)
      have hB1 := hB0.alloc hB0.size (.cells #[] 59)
      have hO1 := World.ownsRow_lit (base := V.heap.size) (e := 59) (size := 2) U0 #[] 0 hB0.size (by decide) rfl
      obtain ⟨g1, hg1⟩ : ∃ g1, g1 = U0.heap.size := ⟨_, rfl⟩
      rw [← hg1] at hO1 ⊢
      have HG1 := hide hg1
      clear hg1
      refine hK _ _ (HVB.out _ hB1) ?_
      clear hK K hb
      try simp only [Act.put, List.getElem_toArray, List.getElem_cons_succ, List.getElem_cons_zero, List.setIfInBounds_toArray, List.set_cons_zero, List.set_cons_succ]
      generalize U0.alloc (.cells #[] 59) = U1 at hB1 hO1 ⊢
      refine heldS_two (i := 5) (k := 8) (by kernel_rfl) rfl rfl (fun K hK => ?_) (fun K hK => ?_)
      · have c5 := HVC.out _ hB1
        go_simp
        refine hK _ _ (HVB.out _ hB1) ?_
        clear hK K c5
        try simp only [Act.put, List.getElem_toArray, List.getElem_cons_succ, List.getElem_cons_zero, List.setIfInBounds_toArray, List.set_cons_zero, List.set_cons_succ]
        refine heldS_two (i := 6) (k := 8) (by kernel_rfl) rfl rfl (fun K hK => ?_) (fun K hK => ?_)
        · have hA := (HA.out _ hB1)
          refine step_append_pks rfl (.tmp 29) (.tmp 33) 27 rfl V.heap.size 59 i0 Try.underlying27 hi hz0 hz1 hz2 (.slice (some ⟨g1, 0, none⟩) 0 0) 0 [] rfl hO1 A2 _ c2 _ r.l rfl rfl hA (by have := HQ16.out; unfold maxLen; omega) (by have := HQ16.out; omega) hB1.size ?_
          intro v6 U2 hO2 hg
          have hB2 := hB1.grown hg hB1.size (fun r e => (hO1.lt r e).1)
          refine hK _ _ (HVB.out _ hB2) ?_
          clear hK K hg hA
          try simp only [Act.put, List.getElem_toArray, List.getElem_cons_succ, List.getElem_cons_zero, List.setIfInBounds_toArray, List.set_cons_zero, List.set_cons_succ]
          rw [Nat.zero_add, List.nil_append] at hO2
          refine heldS_one (i := 8) (by kernel_rfl) rfl (fun K hK => ?_)
          go_simp
          have hB3 := hB2.alloc hB2.size (.cells #[.string (ofL p.b), .bool p.t] 59)
          have R8_3 := World.alloc_heap_new U2 (.cells #[.string (ofL p.b), .bool p.t] 59)
          have hO3 := hO2.alloc (.cells #[.string (ofL p.b), .bool p.t] 59)
          have hne8 : some U2.heap.size ≠ v6.ownBlock := fun e => by have := (hO2.lt _ e.symm).2; omega
          obtain ⟨g8, hg8⟩ : ∃ g8, g8 = U2.heap.size := ⟨_, rfl⟩
          rw [← hg8] at R8_3 hne8 ⊢
          have HG8 := hide hg8
          clear hg8
          refine hK _ _ (HVB.out _ hB3) ?_
          clear hK K
          try simp only [Act.put, List.getElem_toArray, List.getElem_cons_succ, List.getElem_cons_zero, List.setIfInBounds_toArray, List.set_cons_zero, List.set_cons_succ]
          generalize U2.alloc (.cells #[.string (ofL p.b), .bool p.t] 59) = U3 at hB3 R8_3 hO3 ⊢
          refine heldS_one (i := 9) (by kernel_rfl) rfl (fun K hK => ?_)
          have hP := RdP_row R8_3
          refine step_append_pks rfl (.tmp 34) (.tmp 36) 27 rfl V.heap.size 59 i0 Try.underlying27 hi hz0 hz1 hz2 v6 _ _ rfl hO3 (some ⟨g8, 0, none⟩) 1 1 _ [p] rfl rfl hP (by have := HQ16.out; unfold maxLen; omega) (by have := HQ16.out; omega) hB3.size ?_
          intro v9 U4 hO4 hg
          have hB4 := hB3.grown hg hB3.size (fun r e => (hO3.lt r e).1)
          refine hK _ _ (HVB.out _ hB4) ?_
          clear hK K hg hP
          try simp only [Act.put, List.getElem_toArray, List.getElem_cons_succ, List.getElem_cons_zero, List.setIfInBounds_toArray, List.set_cons_zero, List.set_cons_succ]
          rw [← cellsP_app] at hO4
          have hS := HVB.out _ hB4
          refine wpAnyH_take (i := 11) (v := .pointer (some ⟨w.heap.size, k, none⟩)) rfl (by kernel_rfl) (by kernel_rfl) (by kernel_rfl) (fun _ _ _ h => h) (Or.inl ⟨by kernel_rfl, ?y11_7⟩) hS ?r11_7
          case y11_7 => intro W hS; obtain ⟨s0, s1⟩ := hS; go_simp; try with_reducible rfl
          try simp only [Act.put, List.getElem_toArray, List.getElem_cons_succ, List.getElem_cons_zero, List.setIfInBounds_toArray, List.set_cons_zero, List.set_cons_succ]
          clear hS
          have c12 := HVC.out _ hB4
          have z12 := HVF.out _ hB4
          obtain ⟨B9, c9, rfl⟩ := ownsRow_slice hO4
          refine heldS_one (i := 12) (by kernel_rfl) rfl (fun K hK => ?_)
          go_simp
          refine hK _ _ (HVS.out _ _ hB4) ?_
          clear hK K c12 z12
          try simp only [Act.put, List.getElem_toArray, List.getElem_cons_succ, List.getElem_cons_zero, List.setIfInBounds_toArray, List.set_cons_zero, List.set_cons_succ]
          refine wpAnyH_done (by kernel_rfl) ?_ _
          go_wp2_with fail
          go_meet
          case rel => exact ⟨_, B9, c9, rfl, rfl, hide ⟨hB4, hO4⟩⟩
        · go_simp
          have hB2 := hB1.alloc hB1.size (.cells #[.string (ofL p.b), .bool p.t] 59)
          have R8_2 := World.alloc_heap_new U1 (.cells #[.string (ofL p.b), .bool p.t] 59)
          have hO2 := hO1.alloc (.cells #[.string (ofL p.b), .bool p.t] 59)
          have hne8 : some U1.heap.size ≠ (Value.slice (some ⟨g1, 0, none⟩) 0 0).ownBlock := fun e => by have := (hO1.lt _ e.symm).2; omega
          obtain ⟨g8, hg8⟩ : ∃ g8, g8 = U1.heap.size := ⟨_, rfl⟩
          rw [← hg8] at R8_2 hne8 ⊢
          have HG8 := hide hg8
          clear hg8
          refine hK _ _ (HVB.out _ hB2) ?_
          clear hK K
          try simp only [Act.put, List.getElem_toArray, List.getElem_cons_succ, List.getElem_cons_zero, List.setIfInBounds_toArray, List.set_cons_zero, List.set_cons_succ]
          generalize U1.alloc (.cells #[.string (ofL p.b), .bool p.t] 59) = U2 at hB2 R8_2 hO2 ⊢
          refine heldS_one (i := 6) (by kernel_rfl) rfl (fun K hK => ?_)
          have hA := (HA.out _ hB2)
          refine step_append_pks rfl (.tmp 29) (.tmp 33) 27 rfl V.heap.size 59 i0 Try.underlying27 hi hz0 hz1 hz2 (.slice (some ⟨g1, 0, none⟩) 0 0) 0 [] rfl hO2 A2 _ c2 _ r.l rfl rfl hA (by have := HQ16.out; unfold maxLen; omega) (by have := HQ16.out; omega) hB2.size ?_
          intro v6 U3 hO3 hg
          have hB3 := hB2.grown hg hB2.size (fun r e => (hO2.lt r e).1)
          have hlt6 := (Array.getElem?_eq_some_iff.1 R8_2).1
          have R8_3 := (hg.block g8 hlt6 hne8).trans R8_2
          clear hlt6 hne8
          refine hK _ _ (HVB.out _ hB3) ?_
          clear hK K hg hA
          try simp only [Act.put, List.getElem_toArray, List.getElem_cons_succ, List.getElem_cons_zero, List.setIfInBounds_toArray, List.set_cons_zero, List.set_cons_succ]
          rw [Nat.zero_add, List.nil_append] at hO3
          refine heldS_one (i := 9) (by kernel_rfl) rfl (fun K hK => ?_)
          have hP := RdP_row R8_3
          refine step_append_pks rfl (.tmp 34) (.tmp 36) 27 rfl V.heap.size 59 i0 Try.underlying27 hi hz0 hz1 hz2 v6 _ _ rfl hO3 (some ⟨g8, 0, none⟩) 1 1 _ [p] rfl rfl hP (by have := HQ16.out; unfold maxLen; omega) (by have := HQ16.out; omega) hB3.size ?_
          intro v9 U4 hO4 hg
          have hB4 := hB3.grown hg hB3.size (fun r e => (hO3.lt r e).1)
          refine hK _ _ (HVB.out _ hB4) ?_
          clear hK K hg hP
          try simp only [Act.put, List.getElem_toArray, List.getElem_cons_succ, List.getElem_cons_zero, List.setIfInBounds_toArray, List.set_cons_zero, List.set_cons_succ]
          rw [← cellsP_app] at hO4
          have hS := HVB.out _ hB4
          refine wpAnyH_take (i := 11) (v := .pointer (some ⟨w.heap.size, k, none⟩)) rfl (by kernel_rfl) (by kernel_rfl) (by kernel_rfl) (fun _ _ _ h => h) (Or.inl ⟨by kernel_rfl, ?y11_8⟩) hS ?r11_8
          case y11_8 => intro W hS; obtain ⟨s0, s1⟩ := hS; go_simp; try with_reducible rfl
          try simp only [Act.put, List.getElem_toArray, List.getElem_cons_succ, List.getElem_cons_zero, List.setIfInBounds_toArray, List.set_cons_zero, List.set_cons_succ]
          clear hS
          have c12 := HVC.out _ hB4
          have z12 := HVF.out _ hB4
          obtain ⟨B9, c9, rfl⟩ := ownsRow_slice hO4
          refine heldS_one (i := 12) (by kernel_rfl) rfl (fun K hK => ?_)
          go_simp
          refine hK _ _ (HVS.out _ _ hB4) ?_
          clear hK K c12 z12
          try simp only [Act.put, List.getElem_toArray, List.getElem_cons_succ, List.getElem_cons_zero, List.setIfInBounds_toArray, List.set_cons_zero, List.set_cons_succ]
          refine wpAnyH_done (by kernel_rfl) ?_ _
          go_wp2_with fail
          go_meet
          case rel => exact ⟨_, B9, c9, rfl, rfl, hide ⟨hB4, hO4⟩⟩
      · go_simp
        have hB2 := hB1.alloc hB1.size (.cells #[.string (ofL p.b), .bool p.t] 59)
        have R8_2 := World.alloc_heap_new U1 (.cells #[.string (ofL p.b), .bool p.t] 59)
        have hO2 := hO1.alloc (.cells #[.string (ofL p.b), .bool p.t] 59)
        have hne8 : some U1.heap.size ≠ (Value.slice (some ⟨g1, 0, none⟩) 0 0).ownBlock := fun e => by have := (hO1.lt _ e.symm).2; omega
        obtain ⟨g8, hg8⟩ : ∃ g8, g8 = U1.heap.size := ⟨_, rfl⟩
        rw [← hg8] at R8_2 hne8 ⊢
        have HG8 := hide hg8
        clear hg8
        refine hK _ _ (HVB.out _ hB2) ?_
        clear hK K
        try simp only [Act.put, List.getElem_toArray, List.getElem_cons_succ, List.getElem_cons_zero, List.setIfInBounds_toArray, List.set_cons_zero, List.set_cons_succ]
        generalize U1.alloc (.cells #[.string (ofL p.b), .bool p.t] 59) = U2 at hB2 R8_2 hO2 ⊢
        refine heldS_one (i := 5) (by kernel_rfl) rfl (fun K hK => ?_)
        have c5 := HVC.out _ hB2
        go_simp
        refine hK _ _ (HVB.out _ hB2) ?_
        clear hK K c5
        try simp only [Act.put, List.getElem_toArray, List.getElem_cons_succ, List.getElem_cons_zero, List.setIfInBounds_toArray, List.set_cons_zero, List.set_cons_succ]
        refine heldS_one (i := 6) (by kernel_rfl) rfl (fun K hK => ?_)
        have hA := (HA.out _ hB2)
        refine step_append_pks rfl (.tmp 29) (.tmp 33) 27 rfl V.heap.size 59 i0 Try.underlying27 hi hz0 hz1 hz2 (.slice (some ⟨g1, 0, none⟩) 0 0) 0 [] rfl hO2 A2 _ c2 _ r.l rfl rfl hA (by have := HQ16.out; unfold maxLen; omega) (by have := HQ16.out; omega) hB2.size ?_
        intro v6 U3 hO3 hg
        have hB3 := hB2.grown hg hB2.size (fun r e => (hO2.lt r e).1)
        have hlt6 := (Array.getElem?_eq_some_iff.1 R8_2).1
        have R8_3 := (hg.block g8 hlt6 hne8).trans R8_2
        clear hlt6 hne8
        refine hK _ _ (HVB.out _ hB3) ?_
        clear hK K hg hA
        try simp only [Act.put, List.getElem_toArray, List.getElem_cons_succ, List.getElem_cons_zero, List.setIfInBounds_toArray, List.set_cons_zero, List.set_cons_succ]
        rw [Nat.zero_add, List.nil_append] at hO3
        refine heldS_one (i := 9) (by kernel_rfl) rfl (fun K hK => ?_)
        have hP := RdP_row R8_3
        refine step_append_pks rfl (.tmp 34) (.tmp 36) 27 rfl V.heap.size 59 i0 Try.underlying27 hi hz0 hz1 hz2 v6 _ _ rfl hO3 (some ⟨g8, 0, none⟩) 1 1 _ [p] rfl rfl hP (by have := HQ16.out; unfold maxLen; omega) (by have := HQ16.out; omega) hB3.size ?_
        intro v9 U4 hO4 hg
        have hB4 := hB3.grown hg hB3.size (fun r e => (hO3.lt r e).1)
        refine hK _ _ (HVB.out _ hB4) ?_
        clear hK K hg hP
        try simp only [Act.put, List.getElem_toArray, List.getElem_cons_succ, List.getElem_cons_zero, List.setIfInBounds_toArray, List.set_cons_zero, List.set_cons_succ]
        rw [← cellsP_app] at hO4
        have hS := HVB.out _ hB4
        refine wpAnyH_take (i := 11) (v := .pointer (some ⟨w.heap.size, k, none⟩)) rfl (by kernel_rfl) (by kernel_rfl) (by kernel_rfl) (fun _ _ _ h => h) (Or.inl ⟨by kernel_rfl, ?y11_9⟩) hS ?r11_9
        case y11_9 => intro W hS; obtain ⟨s0, s1⟩ := hS; go_simp; try with_reducible rfl
        try simp only [Act.put, List.getElem_toArray, List.getElem_cons_succ, List.getElem_cons_zero, List.setIfInBounds_toArray, List.set_cons_zero, List.set_cons_succ]
        clear hS
        have c12 := HVC.out _ hB4
        have z12 := HVF.out _ hB4
        obtain ⟨B9, c9, rfl⟩ := ownsRow_slice hO4
        refine heldS_one (i := 12) (by kernel_rfl) rfl (fun K hK => ?_)
        go_simp
        refine hK _ _ (HVS.out _ _ hB4) ?_
        clear hK K c12 z12
        try simp only [Act.put, List.getElem_toArray, List.getElem_cons_succ, List.getElem_cons_zero, List.setIfInBounds_toArray, List.set_cons_zero, List.set_cons_succ]
        refine wpAnyH_done (by kernel_rfl) ?_ _
        go_wp2_with fail
        go_meet
        case rel => exact ⟨_, B9, c9, rfl, rfl, hide ⟨hB4, hO4⟩⟩
    · have c5 := HVC.out _ hB0
      go_simp
      refine hK _ _ (HVB.out _ hB0) ?_
      clear hK K c5
      try simp only [Act.put, List.getElem_toArray, List.getElem_cons_succ, List.getElem_cons_zero, List.setIfInBounds_toArray, List.set_cons_zero, List.set_cons_succ]
      refine heldS_two (i := 1) (k := 8) (by kernel_rfl) rfl rfl (fun K hK => ?_) (fun K hK => ?_)
      · go_simp
        have hb := (Below.refl V.heap.size U0).alloc hB0.size (.cells #[] 59)
        have hB1 := hB0.alloc hB0.size (.cells #[] 59)
        have hO1 := World.ownsRow_lit (base := V.heap.size) (e := 59) (size := 2) U0 #[] 0 hB0.size (by decide) rfl
        obtain ⟨g1, hg1⟩ : ∃ g1, g1 = U0.heap.size := ⟨_, rfl⟩
        rw [← hg1] at hO1 ⊢
        have HG1 := hide hg1
        clear hg1
        refine hK _ _ (HVB.out _ hB1) ?_
        clear hK K hb
        try simp only [Act.put, List.getElem_toArray, List.getElem_cons_succ, List.getElem_cons_zero, List.setIfInBounds_toArray, List.set_cons_zero, List.set_cons_succ]
        generalize U0.alloc (.cells #[] 59) = U1 at hB1 hO1 ⊢
        refine heldS_two (i := 6) (k := 8) (by kernel_rfl) rfl rfl (fun K hK => ?_) (fun K hK => ?_)
        · have hA := (HA.out _ hB1)
          refine step_append_pks rfl (.tmp 29) (.tmp 33) 27 rfl V.heap.size 59 i0 Try.underlying27 hi hz0 hz1 hz2 (.slice (some ⟨g1, 0, none⟩) 0 0) 0 [] rfl hO1 A2 _ c2 _ r.l rfl rfl hA (by have := HQ16.out; unfold maxLen; omega) (by have := HQ16.out; omega) hB1.size ?_
          intro v6 U2 hO2 hg
          have hB2 := hB1.grown hg hB1.size (fun r e => (hO1.lt r e).1)
          refine hK _ _ (HVB.out _ hB2) ?_
          clear hK K hg hA
          try simp only [Act.put, List.getElem_toArray, List.getElem_cons_succ, List.getElem_cons_zero, List.setIfInBounds_toArray, List.set_cons_zero, List.set_cons_succ]
          rw [Nat.zero_add, List.nil_append] at hO2
          refine heldS_one (i := 8) (by kernel_rfl) rfl (fun K hK => ?_)
          go_simp
          have hB3 := hB2.alloc hB2.size (.cells #[.string (ofL p.b), .bool p.t] 59)
          have R8_3 := World.alloc_heap_new U2 (.cells #[.string (ofL p.b), .bool p.t] 59)
          have hO3 := hO2.alloc (.cells #[.string (ofL p.b), .bool p.t] 59)
          have hne8 : some U2.heap.size ≠ v6.ownBlock := fun e => by have := (hO2.lt _ e.symm).2; omega
          obtain ⟨g8, hg8⟩ : ∃ g8, g8 = U2.heap.size := ⟨_, rfl⟩
          rw [← hg8] at R8_3 hne8 ⊢
          have HG8 := hide hg8
          clear hg8
          refine hK _ _ (HVB.out _ hB3) ?_
          clear hK K
          try simp only [Act.put, List.getElem_toArray, List.getElem_cons_succ, List.getElem_cons_zero, List.setIfInBounds_toArray, List.set_cons_zero, List.set_cons_succ]
          generalize U2.alloc (.cells #[.string (ofL p.b), .bool p.t] 59) = U3 at hB3 R8_3 hO3 ⊢
          refine heldS_one (i := 9) (by kernel_rfl) rfl (fun K hK => ?_)
          have hP := RdP_row R8_3
          refine step_append_pks rfl (.tmp 34) (.tmp 36) 27 rfl V.heap.size 59 i0 Try.underlying27 hi hz0 hz1 hz2 v6 _ _ rfl hO3 (some ⟨g8, 0, none⟩) 1 1 _ [p] rfl rfl hP (by have := HQ16.out; unfold maxLen; omega) (by have := HQ16.out; omega) hB3.size ?_
          intro v9 U4 hO4 hg
          have hB4 := hB3.grown hg hB3.size (fun r e => (hO3.lt r e).1)
          refine hK _ _ (HVB.out _ hB4) ?_
          clear hK K hg hP
          try simp only [Act.put, List.getElem_toArray, List.getElem_cons_succ, List.getElem_cons_zero, List.setIfInBounds_toArray, List.set_cons_zero, List.set_cons_succ]
          rw [← cellsP_app] at hO4
          have hS := HVB.out _ hB4
          refine wpAnyH_take (i := 11) (v := .pointer (some ⟨w.heap.size, k, none⟩)) rfl (by kernel_rfl) (by kernel_rfl) (by kernel_rfl) (fun _ _ _ h => h) (Or.inl ⟨by kernel_rfl, ?y11_10⟩) hS ?r11_10
          case y11_10 => intro W hS; obtain ⟨s0, s1⟩ := hS; go_simp; try with_reducible rfl
          try simp only [Act.put, List.getElem_toArray, List.getElem_cons_succ, List.getElem_cons_zero, List.setIfInBounds_toArray, List.set_cons_zero, List.set_cons_succ]
          clear hS
          have c12 := HVC.out _ hB4
          have z12 := HVF.out _ hB4
          obtain ⟨B9, c9, rfl⟩ := ownsRow_slice hO4
          refine heldS_one (i := 12) (by kernel_rfl) rfl (fun K hK => ?_)
          go_simp
          refine hK _ _ (HVS.out _ _ hB4) ?_
          clear hK K c12 z12
          try simp only [Act.put, List.getElem_toArray, List.getElem_cons_succ, List.getElem_cons_zero, List.setIfInBounds_toArray, List.set_cons_zero, List.set_cons_succ]
          refine wpAnyH_done (by kernel_rfl) ?_ _
          go_wp2_with fail
          go_meet
          case rel => exact ⟨_, B9, c9, rfl, rfl, hide ⟨hB4, hO4⟩⟩
        · go_simp
          have hB2 := hB1.alloc hB1.size (.cells #[.string (ofL p.b), .bool p.t] 59)
          have R8_2 := World.alloc_heap_new U1 (.cells #[.string (ofL p.b), .bool p.t] 59)
          have hO2 := hO1.alloc (.cells #[.string (ofL p.b), .bool p.t] 59)
          have hne8 : some U1.heap.size ≠ (Value.slice (some ⟨g1, 0, none⟩) 0 0).ownBlock := fun e => by have := (hO1.lt _ e.symm).2; omega
          obtain ⟨g8, hg8⟩ : ∃ g8, g8 = U1.heap.size := ⟨_, rfl⟩
          rw [← hg8] at R8_2 hne8 ⊢
          have HG8 := hide hg8
          clear hg8
          refine hK _ _ (HVB.out _ hB2) ?_
          clear hK K
          try simp only [Act.put, List.getElem_toArray, List.getElem_cons_succ, List.getElem_cons_zero, List.setIfInBounds_toArray, List.set_cons_zero, List.set_cons_succ]
          generalize U1.alloc (.cells #[.string (ofL p.b), .bool p.t] 59) = U2 at hB2 R8_2 hO2 ⊢
          refine heldS_one (i := 6) (by kernel_rfl) rfl (fun K hK => ?_)
          have hA := (HA.out _ hB2)
          refine step_append_pks rfl (.tmp 29) (.tmp 33) 27 rfl V.heap.size 59 i0 Try.underlying27 hi hz0 hz1 hz2 (.slice (some ⟨g1, 0, none⟩) 0 0) 0 [] rfl hO2 A2 _ c2 _ r.l rfl rfl hA (by have := HQ16.out; unfold maxLen; omega) (by have := HQ16.out; omega) hB2.size ?_
          intro v6 U3 hO3 hg
          have hB3 := hB2.grown hg hB2.size (fun r e => (hO2.lt r e).1)
          have hlt6 := (Array.getElem?_eq_some_iff.1 R8_2).1
          have R8_3 := (hg.block g8 hlt6 hne8).trans R8_2
          clear hlt6 hne8
          refine hK _ _ (HVB.out _ hB3) ?_
          clear hK K hg hA
          try simp only [Act.put, List.getElem_toArray, List.getElem_cons_succ, List.getElem_cons_zero, List.setIfInBounds_toArray, List.set_cons_zero, List.set_cons_succ]
          rw [Nat.zero_add, List.nil_append] at hO3
          refine heldS_one (i := 9) (by kernel_rfl) rfl (fun K hK => ?_)
          have hP := RdP_row R8_3
          refine step_append_pks rfl (.tmp 34) (.tmp 36) 27 rfl V.heap.size 59 i0 Try.underlying27 hi hz0 hz1 hz2 v6 _ _ rfl hO3 (some ⟨g8, 0, none⟩) 1 1 _ [p] rfl rfl hP (by have := HQ16.out; unfold maxLen; omega) (by have := HQ16.out; omega) hB3.size ?_
          intro v9 U4 hO4 hg
          have hB4 := hB3.grown hg hB3.size (fun r e => (hO3.lt r e).1)
          refine hK _ _ (HVB.out _ hB4) ?_
          clear hK K hg hP
          try simp only [Act.put, List.getElem_toArray, List.getElem_cons_succ, List.getElem_cons_zero, List.setIfInBounds_toArray, List.set_cons_zero, List.set_cons_succ]
          rw [← cellsP_app] at hO4
          have hS := HVB.out _ hB4
          refine wpAnyH_take (i := 11) (v := .pointer (some ⟨w.heap.size, k, none⟩)) rfl (by kernel_rfl) (by kernel_rfl) (by kernel_rfl) (fun _ _ _ h => h) (Or.inl ⟨by kernel_rfl, ?y11_11⟩) hS ?r11_11
          case y11_11 => intro W hS; obtain ⟨s0, s1⟩ := hS; go_simp; try with_reducible rfl
          try simp only [Act.put, List.getElem_toArray, List.getElem_cons_succ, List.getElem_cons_zero, List.setIfInBounds_toArray, List.set_cons_zero, List.set_cons_succ]
          clear hS
          have c12 := HVC.out _ hB4
          have z12 := HVF.out _ hB4
          obtain ⟨B9, c9, rfl⟩ := ownsRow_slice hO4
          refine heldS_one (i := 12) (by kernel_rfl) rfl (fun K hK => ?_)
          go_simp
          refine hK _ _ (HVS.out _ _ hB4) ?_
          clear hK K c12 z12
          try simp only [Act.put, List.getElem_toArray, List.getElem_cons_succ, List.getElem_cons_zero, List.setIfInBounds_toArray, List.set_cons_zero, List.set_cons_succ]
          refine wpAnyH_done (by kernel_rfl) ?_ _
          go_wp2_with fail
          go_meet
          case rel => exact ⟨_, B9, c9, rfl, rfl, hide ⟨hB4, hO4⟩⟩
      · go_simp
        have hB1 := hB0.alloc hB0.size (.cells #[.string (ofL p.b), .bool p.t] 59)
        have R8_1 := World.alloc_heap_new U0 (.cells #[.string (ofL p.b), .bool p.t] 59)
        obtain ⟨g8, hg8⟩ : ∃ g8, g8 = U0.heap.size := ⟨_, rfl⟩
        rw [← hg8] at R8_1 ⊢
        have HG8 := hide hg8
        clear hg8
        refine hK _ _ (HVB.out _ hB1) ?_
        clear hK K
        try simp only [Act.put, List.getElem_toArray, List.getElem_cons_succ, List.getElem_cons_zero, List.setIfInBounds_toArray, List.set_cons_zero, List.set_cons_succ]
        generalize U0.alloc (.cells #[.string (ofL p.b), .bool p.t] 59) = U1 at hB1 R8_1 ⊢
        refine heldS_one (i := 1) (by kernel_rfl) rfl (fun K hK => ?_)
        go_simp
        have hb := (Below.refl V.heap.size U1).alloc hB1.size (.cells #[] 59)
        have hB2 := hB1.alloc hB1.size (.cells #[] 59)
        have hO2 := World.ownsRow_lit (base := V.heap.size) (e := 59) (size := 2) U1 #[] 0 hB1.size (by decide) rfl
        have R8_2 := (Below.heap_alloc U1 (.cells #[] 59) _ (Array.getElem?_eq_some_iff.1 R8_1).1).trans R8_1
        have hne8 : some g8 ≠ (Value.slice (some ⟨U1.heap.size, 0, none⟩) 0 0).ownBlock := by have := (Array.getElem?_eq_some_iff.1 R8_1).1; simp [Value.ownBlock]; omega
        obtain ⟨g1, hg1⟩ : ∃ g1, g1 = U1.heap.size := ⟨_, rfl⟩
        rw [← hg1] at hO2 hne8 ⊢
        have HG1 := hide hg1
        clear hg1
        refine hK _ _ (HVB.out _ hB2) ?_
        clear hK K hb
        try simp only [Act.put, List.getElem_toArray, List.getElem_cons_succ, List.getElem_cons_zero, List.setIfInBounds_toArray, List.set_cons_zero, List.set_cons_succ]
        generalize U1.alloc (.cells #[] 59) = U2 at hB2 hO2 R8_2 ⊢
        refine heldS_one (i := 6) (by kernel_rfl) rfl (fun K hK => ?_)
        have hA := (HA.out _ hB2)
        refine step_append_pks rfl (.tmp 29) (.tmp 33) 27 rfl V.heap.size 59 i0 Try.underlying27 hi hz0 hz1 hz2 (.slice (some ⟨g1, 0, none⟩) 0 0) 0 [] rfl hO2 A2 _ c2 _ r.l rfl rfl hA (by have := HQ16.out; unfold maxLen; omega) (by have := HQ16.out; omega) hB2.size ?_
        intro v6 U3 hO3 hg
        have hB3 := hB2.grown hg hB2.size (fun r e => (hO2.lt r e).1)
        have hlt6 := (Array.getElem?_eq_some_iff.1 R8_2).1
        have R8_3 := (hg.block g8 hlt6 hne8).trans R8_2
        clear hlt6 hne8
        refine hK _ _ (HVB.out _ hB3) ?_
        clear hK K hg hA
        try simp only [Act.put, List.getElem_toArray, List.getElem_cons_succ, List.getElem_cons_zero, List.setIfInBounds_toArray, List.set_cons_zero, List.set_cons_succ]
        rw [Nat.zero_add, List.nil_append] at hO3
        refine heldS_one (i := 9) (by kernel_rfl) rfl (fun K hK => ?_)
        have hP := RdP_row R8_3
        refine step_append_pks rfl (.tmp 34) (.tmp 36) 27 rfl V.heap.size 59 i0 Try.underlying27 hi hz0 hz1 hz2 v6 _ _ rfl hO3 (some ⟨g8, 0, none⟩) 1 1 _ [p] rfl rfl hP (by have := HQ16.out; unfold maxLen; omega) (by have := HQ16.out; omega) hB3.size ?_
        intro v9 U4 hO4 hg
        have hB4 := hB3.grown hg hB3.size (fun r e => (hO3.lt r e).1)
        refine hK _ _ (HVB.out _ hB4) ?_
        clear hK K hg hP
        try simp only [Act.put, List.getElem_toArray, List.getElem_cons_succ, List.getElem_cons_zero, List.setIfInBounds_toArray, List.set_cons_zero, List.set_cons_succ]
        rw [← cellsP_app] at hO4
        have hS := HVB.out _ hB4
        refine wpAnyH_take (i := 11) (v := .pointer (some ⟨w.heap.size, k, none⟩)) rfl (by kernel_rfl) (by kernel_rfl) (by kernel_rfl) (fun _ _ _ h => h) (Or.inl ⟨by kernel_rfl, ?y11_12⟩) hS ?r11_12
        case y11_12 => intro W hS; obtain ⟨s0, s1⟩ := hS; go_simp; try with_reducible rfl
        try simp only [Act.put, List.getElem_toArray, List.getElem_cons_succ, List.getElem_cons_zero, List.setIfInBounds_toArray, List.set_cons_zero, List.set_cons_succ]
        clear hS
        have c12 := HVC.out _ hB4
        have z12 := HVF.out _ hB4
        obtain ⟨B9, c9, rfl⟩ := ownsRow_slice hO4
        refine heldS_one (i := 12) (by kernel_rfl) rfl (fun K hK => ?_)
        go_simp
        refine hK _ _ (HVS.out _ _ hB4) ?_
        clear hK K c12 z12
        try simp only [Act.put, List.getElem_toArray, List.getElem_cons_succ, List.getElem_cons_zero, List.setIfInBounds_toArray, List.set_cons_zero, List.set_cons_succ]
        refine wpAnyH_done (by kernel_rfl) ?_ _
        go_wp2_with fail
        go_meet
        case rel => exact ⟨_, B9, c9, rfl, rfl, hide ⟨hB4, hO4⟩⟩
    · go_simp
      have hB1 := hB0.alloc hB0.size (.cells #[.string (ofL p.b), .bool p.t] 59)
      have R8_1 := World.alloc_heap_new U0 (.cells #[.string (ofL p.b), .bool p.t] 59)
      obtain ⟨g8, hg8⟩ : ∃ g8, g8 = U0.heap.size := ⟨_, rfl⟩
      rw [← hg8] at R8_1 ⊢
      have HG8 := hide hg8
      clear hg8
      refine hK _ _ (HVB.out _ hB1) ?_
      clear hK K
      try simp only [Act.put, List.getElem_toArray, List.getElem_cons_succ, List.getElem_cons_zero, List.setIfInBounds_toArray, List.set_cons_zero, List.set_cons_succ]
      generalize U0.alloc (.cells #[.string (ofL p.b), .bool p.t] 59) = U1 at hB1 R8_1 ⊢
      refine heldS_two (i := 1) (k := 5) (by kernel_rfl) rfl rfl (fun K hK => ?_) (fun K hK => ?_)
      · go_simp
        have hb := (Below.refl V.heap.size U1).alloc hB1.size (.cells #[] 59)
        have hB2 := hB1.alloc hB1.size (.cells #[] 59)
        have hO2 := World.ownsRow_lit (base := V.heap.size) (e := 59) (size := 2) U1 #[] 0 hB1.size (by decide) rfl
        have R8_2 := (Below.heap_alloc U1 (.cells #[] 59) _ (Array.getElem?_eq_some_iff.1 R8_1).1).trans R8_1
        have hne8 : some g8 ≠ (Value.slice (some ⟨U1.heap.size, 0, none⟩) 0 0).ownBlock := by have := (Array.getElem?_eq_some_iff.1 R8_1).1; simp [Value.ownBlock]; omega
        obtain ⟨g1, hg1⟩ : ∃ g1, g1 = U1.heap.size := ⟨_, rfl⟩
        rw [← hg1] at hO2 hne8 ⊢
        have HG1 := hide hg1
        clear hg1
        refine hK _ _ (HVB.out _ hB2) ?_
        clear hK K hb
        try simp only [Act.put, List.getElem_toArray, List.getElem_cons_succ, List.getElem_cons_zero, List.setIfInBounds_toArray, List.set_cons_zero, List.set_cons_succ]
        generalize U1.alloc (.cells #[] 59) = U2 at hB2 hO2 R8_2 ⊢
        refine heldS_one (i := 5) (by kernel_rfl) rfl (fun K hK => ?_)
        have c5 := HVC.out _ hB2
        go_simp
        refine hK _ _ (HVB.out _ hB2) ?_
        clear hK K c5
        try simp only [Act.put, List.getElem_toArray, List.getElem_cons_succ, List.getElem_cons_zero, List.setIfInBounds_toArray, List.set_cons_zero, List.set_cons_succ]
        refine heldS_one (i := 6) (by kernel_rfl) rfl (fun K hK => ?_)
        have hA := (HA.out _ hB2)
        refine step_append_pks rfl (.tmp 29) (.tmp 33) 27 rfl V.heap.size 59 i0 Try.underlying27 hi hz0 hz1 hz2 (.slice (some ⟨g1, 0, none⟩) 0 0) 0 [] rfl hO2 A2 _ c2 _ r.l rfl rfl hA (by have := HQ16.out; unfold maxLen; omega) (by have := HQ16.out; omega) hB2.size ?_
        intro v6 U3 hO3 hg
        have hB3 := hB2.grown hg hB2.size (fun r e => (hO2.lt r e).1)
        have hlt6 := (Array.getElem?_eq_some_iff.1 R8_2).1
        have R8_3 := (hg.block g8 hlt6 hne8).trans R8_2
        clear hlt6 hne8
        refine hK _ _ (HVB.out _ hB3) ?_
        clear hK K hg hA
        try simp only [Act.put, List.getElem_toArray, List.getElem_cons_succ, List.getElem_cons_zero, List.setIfInBounds_toArray, List.set_cons_zero, List.set_cons_succ]
        rw [Nat.zero_add, List.nil_append] at hO3
        refine heldS_one (i := 9) (by kernel_rfl) rfl (fun K hK => ?_)
        have hP := RdP_row R8_3
        refine step_append_pks rfl (.tmp 34) (.tmp 36) 27 rfl V.heap.size 59 i0 Try.underlying27 hi hz0 hz1 hz2 v6 _ _ rfl hO3 (some ⟨g8, 0, none⟩) 1 1 _ [p] rfl rfl hP (by have := HQ16.out; unfold maxLen; omega) (by have := HQ16.out; omega) hB3.size ?_
        intro v9 U4 hO4 hg
        have hB4 := hB3.grown hg hB3.size (fun r e => (hO3.lt r e).1)
        refine hK _ _ (HVB.out _ hB4) ?_
        clear hK K hg hP
        try simp only [Act.put, List.getElem_toArray, List.getElem_cons_succ, List.getElem_cons_zero, List.setIfInBounds_toArray, List.set_cons_zero, List.set_cons_succ]
        rw [← cellsP_app] at hO4
        have hS := HVB.out _ hB4
        refine wpAnyH_take (i := 11) (v := .pointer (some ⟨w.heap.size, k, none⟩)) rfl (by kernel_rfl) (by kernel_rfl) (by kernel_rfl) (fun _ _ _ h => h) (Or.inl ⟨by kernel_rfl, ?y11_13⟩) hS ?r11_13
        case y11_13 => intro W hS; obtain ⟨s0, s1⟩ := hS; go_simp; try with_reducible rfl
        try simp only [Act.put, List.getElem_toArray, List.getElem_cons_succ, List.getElem_cons_zero, List.setIfInBounds_toArray, List.set_cons_zero, List.set_cons_succ]
        clear hS
        have c12 := HVC.out _ hB4
        have z12 := HVF.out _ hB4
        obtain ⟨B9, c9, rfl⟩ := ownsRow_slice hO4
        refine heldS_one (i := 12) (by kernel_rfl) rfl (fun K hK => ?_)
        go_simp
        refine hK _ _ (HVS.out _ _ hB4) ?_
        clear hK K c12 z12
        try simp only [Act.put, List.getElem_toArray, List.getElem_cons_succ, List.getElem_cons_zero, List.setIfInBounds_toArray, List.set_cons_zero, List.set_cons_succ]
        refine wpAnyH_done (by kernel_rfl) ?_ _
        go_wp2_with fail
        go_meet
        case rel => exact ⟨_, B9, c9, rfl, rfl, hide ⟨hB4, hO4⟩⟩
      · have c5 := HVC.out _ hB1
        go_simp
        refine hK _ _ (HVB.out _ hB1) ?_
        clear hK K c5
        try simp only [Act.put, List.getElem_toArray, List.getElem_cons_succ, List.getElem_cons_zero, List.setIfInBounds_toArray, List.set_cons_zero, List.set_cons_succ]
        refine heldS_one (i := 1) (by kernel_rfl) rfl (fun K hK => ?_)
        go_simp
        have hb := (Below.refl V.heap.size U1).alloc hB1.size (.cells #[] 59)
        have hB2 := hB1.alloc hB1.size (.cells #[] 59)
        have hO2 := World.ownsRow_lit (base := V.heap.size) (e := 59) (size := 2) U1 #[] 0 hB1.size (by decide) rfl
        have R8_2 := (Below.heap_alloc U1 (.cells #[] 59) _ (Array.getElem?_eq_some_iff.1 R8_1).1).trans R8_1
        have hne8 : some g8 ≠ (Value.slice (some ⟨U1.heap.size, 0, none⟩) 0 0).ownBlock := by have := (Array.getElem?_eq_some_iff.1 R8_1).1; simp [Value.ownBlock]; omega
        obtain ⟨g1, hg1⟩ : ∃ g1, g1 = U1.heap.size := ⟨_, rfl⟩
        rw [← hg1] at hO2 hne8 ⊢
        have HG1 := hide hg1
        clear hg1
        refine hK _ _ (HVB.out _ hB2) ?_
        clear hK K hb
        try simp only [Act.put, List.getElem_toArray, List.getElem_cons_succ, List.getElem_cons_zero, List.setIfInBounds_toArray, List.set_cons_zero, List.set_cons_succ]
        generalize U1.alloc (.cells #[] 59) = U2 at hB2 hO2 R8_2 ⊢
        refine heldS_one (i := 6) (by kernel_rfl) rfl (fun K hK => ?_)
        have hA := (HA.out _ hB2)
        refine step_append_pks rfl (.tmp 29) (.tmp 33) 27 rfl V.heap.size 59 i0 Try.underlying27 hi hz0 hz1 hz2 (.slice (some ⟨g1, 0, none⟩) 0 0) 0 [] rfl hO2 A2 _ c2 _ r.l rfl rfl hA (by have := HQ16.out; unfold maxLen; omega) (by have := HQ16.out; omega) hB2.size ?_
        intro v6 U3 hO3 hg
        have hB3 := hB2.grown hg hB2.size (fun r e => (hO2.lt r e).1)
        have hlt6 := (Array.getElem?_eq_some_iff.1 R8_2).1
        have R8_3 := (hg.block g8 hlt6 hne8).trans R8_2
        clear hlt6 hne8
        refine hK _ _ (HVB.out _ hB3) ?_
        clear hK K hg hA
        try simp only [Act.put, List.getElem_toArray, List.getElem_cons_succ, List.getElem_cons_zero, List.setIfInBounds_toArray, List.set_cons_zero, List.set_cons_succ]
        rw [Nat.zero_add, List.nil_append] at hO3
        refine heldS_one (i := 9) (by kernel_rfl) rfl (fun K hK => ?_)
        have hP := RdP_row R8_3
        refine step_append_pks rfl (.tmp 34) (.tmp 36) 27 rfl V.heap.size 59 i0 Try.underlying27 hi hz0 hz1 hz2 v6 _ _ rfl hO3 (some ⟨g8, 0, none⟩) 1 1 _ [p] rfl rfl hP (by have := HQ16.out; unfold maxLen; omega) (by have := HQ16.out; omega) hB3.size ?_
        intro v9 U4 hO4 hg
        have hB4 := hB3.grown hg hB3.size (fun r e => (hO3.lt r e).1)
        refine hK _ _ (HVB.out _ hB4) ?_
        clear hK K hg hP
        try simp only [Act.put, List.getElem_toArray, List.getElem_cons_succ, List.getElem_cons_zero, List.setIfInBounds_toArray, List.set_cons_zero, List.set_cons_succ]
        rw [← cellsP_app] at hO4
        have hS := HVB.out _ hB4
        refine wpAnyH_take (i := 11) (v := .pointer (some ⟨w.heap.size, k, none⟩)) rfl (by kernel_rfl) (by kernel_rfl) (by kernel_rfl) (fun _ _ _ h => h) (Or.inl ⟨by kernel_rfl, ?y11_14⟩) hS ?r11_14
        case y11_14 => intro W hS; obtain ⟨s0, s1⟩ := hS; go_simp; try with_reducible rfl
        try simp only [Act.put, List.getElem_toArray, List.getElem_cons_succ, List.getElem_cons_zero, List.setIfInBounds_toArray, List.set_cons_zero, List.set_cons_succ]
        clear hS
        have c12 := HVC.out _ hB4
        have z12 := HVF.out _ hB4
        obtain ⟨B9, c9, rfl⟩ := ownsRow_slice hO4
        refine heldS_one (i := 12) (by kernel_rfl) rfl (fun K hK => ?_)
        go_simp
        refine hK _ _ (HVS.out _ _ hB4) ?_
        clear hK K c12 z12
        try simp only [Act.put, List.getElem_toArray, List.getElem_cons_succ, List.getElem_cons_zero, List.setIfInBounds_toArray, List.set_cons_zero, List.set_cons_succ]
        refine wpAnyH_done (by kernel_rfl) ?_ _
        go_wp2_with fail
        go_meet
        case rel => exact ⟨_, B9, c9, rfl, rfl, hide ⟨hB4, hO4⟩⟩
  case rest =>
    obtain ⟨W9, B9, c9, rfl, rfl, HQ⟩ := hcut
    have hB9 := HQ.out.1
    have q0 := heap_setCell_same W9 w.heap.size k _ _ (.slice B9 (r.l.length + 1) c9) ((hB9.block _ (Array.getElem?_eq_some_iff.1 r0).1).trans r0)
    have q2 : (W9.setCell ⟨w.heap.size, k, none⟩ (.slice B9 (r.l.length + 1) c9)).heap[w.heap.size + 1 + 1]? = _ := (heap_setCell_other W9 ⟨w.heap.size, k, none⟩ _ (.slice B9 (r.l.length + 1) c9) (by simp; omega)).trans ((hB9.block _ (Array.getElem?_eq_some_iff.1 r2).1).trans r2)
    have HB := hide (show Below w.heap.size w (W9.setCell ⟨w.heap.size, k, none⟩ (.slice B9 (r.l.length + 1) c9)) ∧ w.heap.size + 2 < V.heap.size from ⟨(hW.trans (hB9.mono hW.size)).setCell (p := ⟨w.heap.size, k, none⟩) (Nat.le_refl _) _, (Array.getElem?_eq_some_iff.1 r2).1⟩)
    have hlt2 : w.heap.size + 2 < V.heap.size := (Array.getElem?_eq_some_iff.1 r2).1
    have ho : (W9.setCell ⟨w.heap.size, k, none⟩ (.slice B9 (r.l.length + 1) c9)).ownsRow V.heap.size 59 2 (.slice B9 (r.l.length + 1) c9) (r.l.length + 1) (cellsP (r.l ++ [p])) := own_off HQ.out.2 w.heap.size (by omega) k _
    have HO := hide (And.intro ho hlt2)
    clear ho hlt2
    have hXs : X2.size = 6 := HX.out
    have hsz : (Try.prog.info? 31).map (·.size) = some (X2.setIfInBounds k (.slice B9 (r.l.length + 1) c9)).size := by rw [Array.size_setIfInBounds, hXs]; kernel_rfl
    have hone := one_set H1.out k (.slice B9 (r.l.length + 1) c9) rfl
    have hlast : ∀ U', U'.ownsRow w.heap.size 59 2 (.slice B9 (r.l.length + 1) c9) (r.l.length + 1) (cellsP (r.l ++ [p])) → Below w.heap.size w U' → PTo w X k (q.put p) (X2.setIfInBounds k (.slice B9 (r.l.length + 1) c9)) U' := by
      intro U' hrd hbl
      rw [HP.out]
      refine ⟨B9, c9, by rw [Array.size_setIfInBounds, hXs], hone, ⟨?_, ?_, ?_, ?_⟩, fun j h1 h2 h3 => (get_ne h1).trans (HOFF.out j h1 h2 h3), hbl⟩
      · rw [get_eq (by omega), List.length_append]; rfl
      · rw [get_ne (by omega)]; exact hS.sent
      · rw [get_ne (by omega)]; exact hS.lost
      · rw [List.length_append]; exact hrd
    have HL := hide hlast
    clear hlast hB9 HQ HVS HVF HVC HVB HA hS r0 r1 r2 hW
    generalize (W9.setCell ⟨w.heap.size, k, none⟩ (.slice B9 (r.l.length + 1) c9)) = U at q0 q2 HO HB ⊢
    have HSZ := hide hsz
    have hall : (X2.setIfInBounds k (.slice B9 (r.l.length + 1) c9)).all (·.oneCell') = true := Array.all_eq_true_iff_forall_mem.2 (fun x hx => hone x (Array.mem_toList_iff.2 hx))
    have HA1 := hide hall
    have H6 := hide (show (X2.setIfInBounds k (.slice B9 (r.l.length + 1) c9)).size = 6 by rw [Array.size_setIfInBounds, hXs])
    clear hsz hone hall hXs
    generalize X2.setIfInBounds k (.slice B9 (r.l.length + 1) c9) = Y at q0 HL HSZ HA1 H6 ⊢
    go_wp2_with (first
      | (refine wpList_load_row rfl 31 (.tmp 3) rfl w.heap.size rfl 31 Y (0, 0) _ q0 Try.underlying31 rfl HSZ.out ?_)
      | (refine wpList_store_row rfl 31 (.tmp 6) (.tmp 40) rfl (w.heap.size + 1 + 1) Y rfl rfl 31 _ q2 HSZ.out (by rw [H6.out]; rfl) HA1.out ?_))
    refine bodyPost_ret (v := .agg Y) (results_cell_row rfl _ _ (w.heap.size + 1 + 1) 31 Y (0, 0) _ rfl (setRow_heap U _ _ Y _ _ q2) Try.underlying31 rfl HSZ.out) rfl ⟨Y, rfl, HL.out _ (ownsRow_lowerP (own_row HO.out.1 (w.heap.size + 1 + 1) (by have := HO.out.2; omega) Y) (by have := HO.out.2; omega)) (below_row HB.out.1 (by omega) Y)⟩
theorem refPut_any (k : Nat) (hk : k < 2) (X : Array Value) (q : Way) (p : Pk) (A : Option Addr) (c : Nat) (w : World) (hX : X.size = 6) (h1 : ∀ v ∈ X.toList, v.oneCell' = true) (h : SAt w X k q A c) (hn : q.l.length ≤ 16) (hlo : q.lost ≤ 1000000) :
    Calls Try.prog 19 #[.agg X, .int .i64 k, .agg p.cells] w fun e w' => ∃ X', e = .returned (.agg X') ∧ PTo w X k (q.put p) X' w' := by
  by_cases hf : q.l.length = 16
  · exact refPut_full k hk X q p A c w hX h1 h hf hlo
  · exact refPut_room k hk X q p A c w hX h1 h (by omega)
end Go.Proofs.Ytfknfpngcnianaa
