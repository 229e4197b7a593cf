/-
  journal.records: the records of a text's lines, as a sequence.
-/
import Derived.Test.YtggdndmjfbiaiaaDoorJnRecord
import Derived.Test.YtggdndmjfbiaiaaDoorJnLines
import Derived.Test.YtggdndmjfbiaiaaDoorRangeK
import Derived.RangeFuncBox
namespace Go.Proofs.YtggdndmjfbiaiaaDoor
open Go.RowKit Go.Shelf
set_option maxRecDepth 100000

theorem roundIn_wide {n m k : Nat} {P : Program} {l : Nat} {f : FuncId} {tmps : Array Value} {assign body : Code} {w : World} {R : Ending → World → Prop}
    (h : RoundIn Fence.wide n P l f tmps assign body w R) : RoundIn (Fence.wide.inRound k) m P l f tmps assign body w R := ⟨trivial, fun c cs _ => h.2 c cs (room_wide _)⟩
theorem roundIn_any {n m : Nat} {P : Program} {l : Nat} {f : FuncId} {tmps : Array Value} {assign body : Code} {w : World} {R : Ending → World → Prop}
    (h : RoundIn Fence.wide n P l f tmps assign body w R) : RoundIn Fence.wide m P l f tmps assign body w R := ⟨trivial, fun c cs _ => h.2 c cs (room_wide _)⟩
theorem seqK_any {α : Type} {n m : Nat} {P : Program} {g : Nat} {lb : Array Value} {encs : α → Array Value} {L K : List Nat} {S Sp : List α → Prop} {w : World}
    (h : SeqK Fence.wide n P g lb encs L K S Sp w) : SeqK Fence.wide m P g lb encs L K S Sp w := by
  intro l J Jx W hW hJ hJx hY h0
  refine callsIn_wide.2 (callsIn_wide.1 (h l J Jx W hW hJ hJx ?_ h0))
  intro X pre x W1 hX hX1 hj hl
  obtain ⟨fn, tmps, assign, body, hy, hR⟩ := hY X pre x W1 hX hX1 hj hl
  exact ⟨fn, tmps, assign, body, hy, roundIn_any hR⟩
theorem lines_in : ∀ (n : Nat) (s : List UInt8), s.length ≤ n → (linesL s).length ≤ s.length ∧ ∀ x, x ∈ linesL s → x.length ≤ s.length := by
  intro n
  induction n with
  | zero =>
    intro s hs
    have : s = [] := List.length_eq_zero_iff.1 (by omega)
    subst this
    rw [lines_nil]
    exact ⟨Nat.le_refl _, fun x hx => by cases hx⟩
  | succ n ih =>
    intro s hs
    by_cases hn : s = []
    · subst hn; rw [lines_nil]; exact ⟨Nat.le_refl _, fun x hx => by cases hx⟩
    · rcases index_cases s 10 with h | ⟨o, h⟩
      · rw [lines_none s h hn]
        have := List.length_pos_iff.2 hn
        refine ⟨by simp; omega, fun x hx => ?_⟩
        simp at hx
        subst hx
        exact Nat.le_refl _
      · obtain ⟨e, hl⟩ := lines_some s o h
        obtain ⟨h1, h2⟩ := ih (s.drop (o + 1)) (by rw [List.length_drop]; omega)
        rw [List.length_drop] at h1 h2
        rw [e]
        refine ⟨by simp; omega, fun x hx => ?_⟩
        rcases List.mem_cons.1 hx with rfl | hx
        · rw [List.length_take]; omega
        · have := h2 x hx; omega
/-- The tables' blocks. -/
def tabK : List Nat := [0, 2, 3]
theorem Tabs.same {w w' : World} (h : Tabs w) (hk : ∀ k, k ∈ tabK → w'.heap[k]? = w.heap[k]?) : Tabs w' := by
  have cell : ∀ g, g ∈ tabK → w'.cell? ⟨g, 0, none⟩ = w.cell? ⟨g, 0, none⟩ := fun g hg => by
    unfold World.cell?
    show (match w'.heap[g]? with | _ => _) = _
    rw [hk g hg]
  obtain ⟨p, e1, e2⟩ := h
  obtain ⟨v1, h1, k1⟩ := e1
  obtain ⟨v2, h2, k2⟩ := e2
  refine ⟨?_, ⟨v1, (cell 2 (by simp [tabK])).trans h1, k1⟩, ⟨v2, (cell 3 (by simp [tabK])).trans h2, k2⟩⟩
  unfold Lib.TabIs World.var? at p ⊢
  rw [pow10_at] at p ⊢
  simp only [Option.bind_some] at p ⊢
  rw [hk 0 (by simp [tabK])]
  exact p
theorem tab_lt {k : Nat} (h : k ∈ tabK) : k ≤ 3 := by
  simp [tabK] at h
  omega

theorem records_any (s : ByteArray) (w : World) :
    Calls Tryd.prog 14 #[.string s] w fun e w' => e = .returned (.func (.func 18) #[] #[.pointer (some ⟨w.heap.size, 0, none⟩)]) ∧ w' = w.alloc (.cells #[.string s] 9) := by
  go_enter Tryd.func14, Tryd.ntmps14
  go_wp2
  go_ret
  exact ⟨rfl, rfl⟩

attribute [local go_sem] Oper.semAt_some
set_option maxHeartbeats 4000000 in
theorem rec_seq (n : Nat) (b : Nat) (s : ByteArray) (w : World) (hs : (s.size : Int) ≤ 100000) (hT : Tabs w) (hb : b < w.heap.size) (c : w.heap[b]? = some (.cells #[.string s] 9 (0, 0))) :
    SeqK Fence.wide n Tryd.prog 18 #[.pointer (some ⟨b, 0, none⟩)] (fun p : Int × Int => #[.agg #[.int .i64 p.1, .int .i64 p.2]]) [] tabK
      (fun xs => xs = readJ (linesL (toL s))) (fun pre => pre <+: readJ (linesL (toL s))) w := by
  refine seqK_any (n := 5) ?_
  obtain ⟨T, hTe⟩ : ∃ T, T = linesL (toL s) := ⟨_, rfl⟩
  have HMem := hide (show T.length ≤ s.size ∧ ∀ x ∈ T, x.length ≤ s.size by rw [hTe]; have h := lines_in _ (toL s) (Nat.le_refl _); rw [size_toL] at h; exact h)
  rw [← hTe]
  obtain ⟨R, hRe⟩ : ∃ R, R = readJ T := ⟨_, rfl⟩
  rw [← hRe]
  have HTe := hide hTe
  have HRe := hide hRe
  clear hTe hRe
  intro l J Jx W hW hJ hJx hY h0
  have k1 : W.heap[b]? = some (.cells #[.string s] 9 (0, 0)) := (hW.block _ hb).trans c
  have hbW : b < W.heap.size := Nat.lt_of_lt_of_le hb hW.size
  have HTW := hide (hT.below hW)
  have h3W := HTW.out.lt
  clear c hW hb hT
  have d1 : W.cell? ⟨b, 0, none⟩ = some (.string s) := cell_of_row _ _ _ _ _ _ k1
  have dA : ∀ o : Obj, (W.alloc o).cell? ⟨b, 0, none⟩ = some (.string s) := fun o => cell_of_row _ _ _ _ _ _ ((Below.heap_alloc _ _ _ hbW).trans k1)
  refine callsIn_of_wp_marks Tryd.func18 rfl trivial ?_ rfl
  simp only [Tryd.ntmps18, List.size_toArray, List.length_cons, List.length_nil, Nat.reduceAdd, Nat.reduceSub, Array.replicate_succ, Array.replicate_zero, List.push_toArray, List.append_toArray, List.nil_append, List.cons_append]
  gi_wp2_with fail
  refine ⟨trivial, (callsIn_wide.2 (linesOf_any s _)).mono ?_⟩
  rintro e w1 ⟨rfl, hw1⟩
  have hz1 : w1.heap.size = W.heap.size + 2 := by rw [hw1]; simp
  have kY : w1.heap[W.heap.size]? = some (.cells #[.func (.yield l) #[] #[]] 48 (0, 0)) := by
    rw [hw1, Below.heap_alloc _ _ _ (by simp <;> omega)]
    exact World.alloc_heap_new _ _
  have kP : w1.heap[W.heap.size + 1]? = some (.cells #[.string s] 9 (0, 0)) := by
    rw [hw1]
    have h := World.alloc_heap_new (W.alloc (.cells #[.func (.yield l) #[] #[]] 48)) (Obj.cells #[.string s] 9)
    simp only [World.size_alloc] at h
    exact h
  have kT : ∀ k, k ∈ tabK → w1.heap[k]? = W.heap[k]? := fun k hk => by
    have := tab_lt hk
    rw [hw1, Below.heap_alloc _ _ _ (by simp <;> omega), Below.heap_alloc _ _ _ (by omega)]
  have j1 : ∀ X, W.heap.size ≤ X → J X [] w1 := fun X hX => by
    rw [hw1]
    exact hJ _ hX _ _ _ none (hJ _ hX _ _ _ none (h0 _ hX) (World.grownBy_alloc _ _ none) (fun r e => by cases e)) (World.grownBy_alloc _ _ none) (fun r e => by cases e)
  have e2 : (W.alloc (.cells #[.func (.yield l) #[] #[]] 48)).heap.size = W.heap.size + 1 := by simp
  rw [e2]
  clear hw1 e2 h0 dA d1 k1
  gi_wp2_with fail
  have sub : ∀ X r, w1.heap.size ≤ X → Its [W.heap.size + 1] w1.heap.size X r → Its [] W.heap.size X r := fun X r hX h => by
    rcases h with h | h
    · simp at h; exact .inr ⟨by omega, by omega⟩
    · exact .inr ⟨by omega, h.2⟩
  refine wpIn_rangeT (α := ByteArray) rfl (by omega) (gf := 22) (lb := #[.pointer (some ⟨W.heap.size + 1, 0, none⟩)]) rfl trivial
    (enters_of Tryd.func22 (by kernel_rfl) rfl) (L := [W.heap.size + 1]) (by intro k hk; simp at hk; omega)
    (lines_seq 4 (W.heap.size + 1) s w1 (by omega) (by omega) kP) (fun _ => rfl)
    (fun X pre WW => (∃ us, Hid (∀ rest, pre.map toL ++ rest = T → R = us ++ readJ rest) ∧ J X us WW) ∧ WW.heap[W.heap.size]? = some (.cells #[.func (.yield l) #[] #[]] 48 (0, 0)) ∧ (∀ k, k ∈ tabK → WW.heap[k]? = W.heap[k]?))
    (fun X c pre WW => c = .ret ∧ ((∃ us, us = R ∧ J X us WW) ∨ (∃ us, us <+: R ∧ Jx X us WW)))
    ?hI ?hIx (fun X hX => ⟨⟨[], hide (fun rest h => by rw [HRe.out, ← h]; rfl), j1 X (by omega)⟩, kY, kT⟩)
    (fun x => { tmps := #[.func (.yield l) #[] #[], .pointer (some ⟨b, 0, none⟩), .pointer (some ⟨W.heap.size, 0, none⟩), .string x, undef, undef, .string s, .func (.func 22) #[] #[.pointer (some ⟨W.heap.size + 1, 0, none⟩)], .string x,
      undef, undef, undef, undef, undef, undef, undef, undef, undef, undef, undef, undef, undef], defers := [] }) ?assign ?body ?done ?stop
  case hI =>
    rintro X hX pre A B row ⟨⟨us, h1, h2⟩, h3, h4⟩ hg hr
    have ne : ∀ k, k < W.heap.size + 1 → ¬ row = some k := fun k hk e => by
      rcases hr k e with h | h
      · simp at h; omega
      · omega
    have hlt := (Array.getElem?_eq_some_iff.1 h3).1
    exact ⟨⟨us, h1, hJ X (by omega) _ _ _ _ h2 hg (fun r e => sub X r (by omega) (hr r e))⟩, (hg.block _ hlt (fun e => ne _ (by omega) e.symm)).trans h3,
      fun k hk => (hg.block _ (by have := tab_lt hk; omega) (fun e => ne _ (by have := tab_lt hk; omega) e.symm)).trans (h4 k hk)⟩
  case hIx =>
    rintro X c hX pre A B row ⟨h1, h2⟩ hg hr
    refine ⟨h1, h2.elim (fun ⟨us, h2, h3⟩ => .inl ⟨us, h2, hJ X (by omega) _ _ _ _ h3 hg (fun r e => sub X r (by omega) (hr r e))⟩) (fun ⟨us, h2, h3⟩ => .inr ⟨us, h2, hJx X (by omega) _ _ _ _ h3 hg (fun r e => sub X r (by omega) (hr r e))⟩)⟩
  case assign =>
    intro ll x WW K hK
    gi_wp2
    exact hK
  case body =>
    rintro X ll pre x WW hX hXW ⟨⟨us, h1, h2⟩, h3, h4⟩ hpre
    rw [List.map_append] at hpre
    obtain ⟨rest, hrest⟩ := hpre
    rw [← HTe.out] at hrest
    have hx : x.size ≤ s.size := by
      have h := HMem.out.2 (toL x) (by rw [← hrest]; simp)
      rw [size_toL] at h; exact h
    have hR := h1.out (toL x :: rest) (by rw [← hrest]; simp)
    have HRest := hide hrest
    have HRc := hide (record_any x WW (by omega) (HTW.out.same h4))
    have hlY := (Array.getElem?_eq_some_iff.1 h3).1
    have HL0 := hide (fun (w2 : World) (hb : Below WW.heap.size WW w2) (o : Obj) => (show (w2.alloc o).heap[W.heap.size]? = some (.cells #[.func (.yield l) #[] #[]] 48 (0, 0)) from (Below.heap_alloc _ _ _ (Nat.lt_of_lt_of_le hlY hb.size)).trans ((hb.block _ hlY).trans h3)))
    have HJ2 := hide (fun (w2 : World) (hb : Below WW.heap.size WW w2) (o : Obj) => hJ X (by omega) _ _ _ none (hJ X (by omega) _ _ _ none h2 (grownBy_below hb) (fun r e => by cases e)) (World.grownBy_alloc w2 o none) (fun r e => by cases e))
    have HLie := hide (fun (w2 : World) (hb : Below WW.heap.size WW w2) (o : Obj) => (show Lies (Its [W.heap.size + 1] w1.heap.size X) WW (w2.alloc o) from ⟨by have := hb.size; simp; omega, fun k hk => by
      have hlt : k < WW.heap.size := by
        rcases hk with hk | hk
        · simp at hk; omega
        · omega
      exact (Below.heap_alloc _ _ _ (Nat.lt_of_lt_of_le hlt hb.size)).trans (hb.block _ hlt)⟩))
    have HTb := hide (fun (w2 : World) (hb : Below WW.heap.size WW w2) (o : Obj) (k : Nat) (hk : k ∈ tabK) => (show (w2.alloc o).heap[k]? = W.heap[k]? from by
      have := tab_lt hk
      exact (Below.heap_alloc _ _ _ (by have := hb.size; omega)).trans ((hb.block _ (by omega)).trans (h4 k hk))))
    have hz1' := hide hz1
    have hXs := hide hX
    cases hr : recJ (toL x) with
    | none =>
      rw [readJ_no hr, List.append_nil] at hR
      rw [show recV (toL x) = #[.agg #[.int .i64 0, .int .i64 0], .bool false] by unfold recV; rw [hr]] at HRc
      have HR := hide hR
      clear hR hr h1 h2 h3 h4 hY hJ hJx HTW kY kP kT j1 hrest hz1 hX
      gi_wp2_with fail
      refine ⟨trivial, (CallsIn.inRound ll (callsIn_wide.2 HRc.out)).mono ?_⟩
      rintro e w2 ⟨rfl, hb2⟩
      have HB2 := hide hb2
      clear hb2
      gi_wp2_with fail
      refine ⟨fun f h => (by cases h), ?_⟩
      gi_wp2_with fail
      exact ⟨HLie.out _ HB2.out _, rfl, .inl ⟨us, HR.out.symm, HJ2.out _ HB2.out _⟩⟩
    | some p =>
      rw [readJ_yes hr] at hR
      obtain ⟨pk, pn⟩ := p
      rw [show recV (toL x) = #[.agg #[.int .i64 pk, .int .i64 pn], .bool true] by unfold recV; rw [hr]] at HRc
      have hSp : us ++ [(pk, pn)] <+: R := ⟨readJ rest, by rw [hR]; simp⟩
      have HRd := hide (fun (w2 : World) (hb : Below WW.heap.size WW w2) (o : Obj) => hY X us (pk, pn) (w2.alloc o) (by omega) (by have := hb.size; simp; omega) (HJ2.out w2 hb o) hSp)
      have HSp := hide hSp
      have HR := hide hR
      clear hR hr h1 h2 h3 h4 hY hJ hJx HTW kY kP kT j1 hrest hz1 hX hSp
      gi_wp2_with fail
      refine ⟨trivial, (CallsIn.inRound ll (callsIn_wide.2 HRc.out)).mono ?_⟩
      rintro e w2 ⟨rfl, hb2⟩
      have HB2 := hide hb2
      obtain ⟨w3, hw3⟩ : ∃ w3, w3 = w2.alloc (.cells #[.int .i64 pk, .int .i64 pn] 34) := ⟨_, rfl⟩
      have hr3 : w3.heap[w2.heap.size]? = some (.cells #[.int .i64 pk, .int .i64 pn] 34 (0, 0)) := by rw [hw3]; exact World.alloc_heap_new _ _
      have hy3 := HL0.out _ hb2 (.cells #[.int .i64 pk, .int .i64 pn] 34)
      rw [← hw3] at hy3
      have c0 : w3.cell? ⟨w2.heap.size, 0, none⟩ = some (.int .i64 pk) := cell_of_row _ _ _ _ _ _ hr3
      have c1 : w3.cell? ⟨w2.heap.size, 1, none⟩ = some (.int .i64 pn) := cell_of_row _ _ _ _ _ _ hr3
      have cY : w3.cell? ⟨W.heap.size, 0, none⟩ = some (.func (.yield l) #[] #[]) := cell_of_row _ _ _ _ _ _ hy3
      have HY3 := hide hy3
      obtain ⟨fn, tmps, assign, body, hy, hRn⟩ := HRd.out _ HB2.out (.cells #[.int .i64 pk, .int .i64 pn] 34)
      have HLie3 := hide (HLie.out _ HB2.out (.cells #[.int .i64 pk, .int .i64 pn] 34))
      have HTb3 := hide (HTb.out _ HB2.out (.cells #[.int .i64 pk, .int .i64 pn] 34))
      have HRn := hide hRn
      rw [hw3] at c0 c1 cY
      rw [← hw3] at HRn HLie3 HTb3
      have Hw3 := hide hw3
      clear hb2 hr3 hy3 hw3 hRn HRd HLie HTb HL0 HJ2
      gi_wp2_with fail
      rw [← Hw3.out]
      clear c0 c1 cY hy Hw3 HRc
      have HSub := hide (show ∀ r, Its [W.heap.size + 1] w1.heap.size X r → ItsK [] tabK W.heap.size X r from fun r h => .inl (sub X r (by have := hXs.out; omega) h))
      have HWX := hide (show W.heap.size < X by have := hXs.out; have := hz1'.out; omega)
      have HNext := hide (show ∀ rest2, (pre ++ [x]).map toL ++ rest2 = T → R = (us ++ [(pk, pn)]) ++ readJ rest2 from fun rest2 h2 => by
        have h4 := h2.trans HRest.out.symm
        rw [List.map_append] at h4
        rw [List.append_cancel_left h4, HR.out]
        simp)
      refine (roundIn_wide HRn.out).mono ?_
      rintro e W' (⟨rfl, hJ', hk⟩ | ⟨rfl, hJx', hk⟩)
      · have HK := hide hk
        clear hk
        gi_wp2_with fail
        exact ⟨HLie3.out.trans (HK.out.sub HSub.out), ⟨us ++ [(pk, pn)], HNext, hJ'⟩, (HK.out.2 W.heap.size (.inl (.inr ⟨Nat.le_refl _, HWX.out⟩))).trans HY3.out, fun k hk2 => (HK.out.2 k (.inr hk2)).trans (HTb3.out k hk2)⟩
      · have HK := hide hk
        clear hk
        gi_wp2_with fail
        exact ⟨HLie3.out.trans (HK.out.sub HSub.out), rfl, .inr ⟨us ++ [(pk, pn)], HSp.out, hJx'⟩⟩
  case done =>
    rintro X D xs WW hX hD hDX hS ⟨⟨us, h1, h2⟩, h3, h4⟩ hK
    have hj := hJ X (by omega) _ _ _ _ h2 (grownBy_putObj' _ D (.deferred none)) (fun r e => by cases e; exact .inr ⟨by omega, hDX⟩)
    have hU : us = R := by
      have h := h1.out [] (by rw [HTe.out, ← hS]; simp)
      rw [h]; simp [readJ]
    have HU := hide hU
    clear hJ hJx hY h1 h2 hU hS h3 h4 kY kP kT j1
    gi_wp2_with fail
    refine ⟨by simp, .inl ⟨_, _, rfl, run_takeDeferred hK, ?_⟩⟩
    exact ⟨_, results_none rfl _ _ _, ⟨_, rfl⟩, X, by omega, .inl ⟨us, HU.out, hj⟩⟩
  case stop =>
    rintro X D c pre WW hX hD hDX hS ⟨rfl, h2⟩ hK
    have HX := hide (show (∃ us, us = R ∧ J X us (WW.putObj D (.deferred none))) ∨ (∃ us, us <+: R ∧ Jx X us (WW.putObj D (.deferred none))) from
      h2.elim (fun ⟨us, h2, h3⟩ => .inl ⟨us, h2, hJ X (by omega) _ _ _ _ h3 (grownBy_putObj' _ D (.deferred none)) (fun r e => by cases e; exact .inr ⟨by omega, hDX⟩)⟩)
        (fun ⟨us, h2, h3⟩ => .inr ⟨us, h2, hJx X (by omega) _ _ _ _ h3 (grownBy_putObj' _ D (.deferred none)) (fun r e => by cases e; exact .inr ⟨by omega, hDX⟩)⟩))
    clear hJ hJx hY h2 kY kP kT j1
    gi_wp2_with fail
    refine ⟨by simp, .inl ⟨_, _, rfl, run_takeDeferred hK, ?_⟩⟩
    exact ⟨_, results_none rfl _ _ _, ⟨_, rfl⟩, X, by omega, HX.out⟩
end Go.Proofs.YtggdndmjfbiaiaaDoor
