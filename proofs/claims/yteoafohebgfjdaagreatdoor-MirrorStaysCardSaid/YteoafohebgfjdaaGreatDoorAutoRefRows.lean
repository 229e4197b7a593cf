/-
  Texts that belong together: RuleFits, RuleOf, RefRows.
-/
import Derived.Test.YteoafohebgfjdaaGreatDoorAutoRuleRead
import Derived.Test.YteoafohebgfjdaaGreatDoorAutoRuleSpec
import Derived.Test.YteoafohebgfjdaaGreatDoorAutoRoundRegion
import Derived.Deep.RegionHeld3
/-
  Does a core match one of a path's ends?
-/
namespace Go.Proofs.YteoafohebgfjdaaGreatDoor
open Go.RowKit
set_option maxRecDepth 100000

theorem ends_mem : ∀ (n : Nat) (s : List UInt8), s.length ≤ n → ∀ x, x ∈ endsL s → x.length ≤ s.length := by
  intro n
  induction n with
  | zero =>
    intro s hs x hx
    have : s = [] := List.length_eq_zero_iff.1 (by omega)
    subst this
    rw [ends_none (by rfl)] at hx
    simp at hx
    subst hx
    exact Nat.le_refl _
  | succ n ih =>
    intro s hs x hx
    rcases index_cases s 47 with h | ⟨o, h⟩
    · rw [ends_none h] at hx
      simp at hx
      subst hx
      exact Nat.le_refl _
    · have hl := (splitL_some s o h).2
      rw [ends_some h, List.mem_cons] at hx
      rcases hx with rfl | hx
      · exact Nat.le_refl _
      · have h2 := ih (s.drop (o + 1)) (by rw [List.length_drop]; omega) x hx
        rw [List.length_drop] at h2
        omega
def fitsG (wh : Bool) (g : List GPart) (T : List (List UInt8)) : Bool := (if wh then T.take 1 else T).any (acc g)
theorem fitsG_yes {wh : Bool} {g : List GPart} {T pre : List (List UInt8)} {x : List UInt8} (hp : pre ++ [x] <+: T) (hw : wh = true → pre = []) (ha : acc g x = true) : fitsG wh g T = true := by
  obtain ⟨t, rfl⟩ := hp
  unfold fitsG
  cases wh with
  | true => rw [hw rfl]; simp [ha]
  | false => simp [ha]
theorem fitsG_no {g : List GPart} {T pre : List (List UInt8)} {x : List UInt8} (hp : pre ++ [x] <+: T) (hw : pre = []) (ha : acc g x = false) : fitsG true g T = false := by
  obtain ⟨t, rfl⟩ := hp
  unfold fitsG
  rw [hw]; simp [ha]
theorem fitsG_end {wh : Bool} {g : List GPart} {T : List (List UInt8)} (hn : T.any (acc g) = false) : fitsG wh g T = false := by
  unfold fitsG
  cases wh with
  | true =>
    rw [if_pos rfl, List.any_eq_false]
    intro x hx
    exact (List.any_eq_false.1 hn) x (List.mem_of_mem_take hx)
  | false => simpa using hn

theorem wpListIn_load_at {F : Fence} {n : Nat} {P : Program} {ops : Array Oper} {rest : List Oper} {op : Oper} {a : Act} {w : World} {Q : Exit → Act → World → Prop} (hgd : op.guard = none) (ty : TypeId) (x : Operand) (ho : op.op = .load ty x)
    (b o : Nat) (hx : a.eval x = .pointer (some ⟨b, o, none⟩)) (A : Array Value) (d : TypeDesc) (hc : w.rangeAt b o A.toList)
    (hu : P.underlying ty = some d) (hd : d.isRow = true) (hi : (P.info? ty).map (·.size) = some A.size)
    (h : wpListIn F n P ops Q rest (a.put op.dst (.agg A)) w) : wpListIn F n P ops Q (op :: rest) a w :=
  wpListIn_plain hgd fun K hK => by
    have e := run_loadVar_mid (P := P) w b o ty A.toList d hc hu hd (by simpa using hi)
    unfold Oper.wpIn
    refine ⟨fun f hf => ?_, ?_⟩
    · simp [Oper.about, ho] at hf
    · rw [Oper.semAt_eq _ _ _ (fun c => by rw [ho]; intro h; cases h)]
      unfold execOp
      simp only [ho, hx, Instr.loadAt, Instr.sureAddr, Sem.run_bind, Sem.run_pure, Result.andThen_ok, e]
      exact hK _ _ (by simpa using h)
theorem held_range {W : World} {b : Nat} {wh mu : Bool} {g : List GPart} (h : W.heap[b]? = some (.cells (heldV wh mu g) 139 (0, 0))) : W.rangeAt b 2 (patV g).toList := fun j v hv => by
  rw [Array.getElem?_toList] at hv
  have hj : j < 321 := by have := (Array.getElem?_eq_some_iff.1 hv).1; rw [patV_size] at this; exact this
  rw [patV_get _ _ hj] at hv
  rw [cell_of_row _ _ _ _ _ _ h, heldV_get _ _ _ _ (by omega), ← hv]
  unfold heldC
  rw [if_neg (by omega), if_neg (by omega)]
  congr 2
  omega

theorem ends_any (p : ByteArray) (w : World) :
    Calls Tryz.prog 116 #[.string p] w fun e w' => e = .returned (.func (.func 124) #[] #[.pointer (some ⟨w.heap.size, 0, none⟩)]) ∧ w' = w.alloc (.cells #[.string p] 9) := by
  go_enter Tryz.func116, Tryz.ntmps116
  go_wp2
  go_ret
  exact ⟨rfl, rfl⟩

attribute [local go_sem] Oper.semAt_some
set_option maxHeartbeats 4000000 in
theorem fits_in (bh : Nat) (wh mu : Bool) (g : List GPart) (p : ByteArray) (w : World) (hp : (p.size : Int) ≤ 1000000) (hg64 : g.length ≤ 64) (hb : bh < w.heap.size) (hr : w.heap[bh]? = some (.cells (heldV wh mu g) 139 (0, 0))) :
    CallsIn Fence.wide 5 Tryz.prog 110 #[.pointer (some ⟨bh, 0, none⟩), .string p] w fun e w' => e = .returned (.bool (fitsG wh g (endsL (toL p)))) ∧ Below w.heap.size w w' := by
  obtain ⟨V, hV⟩ : ∃ V, V = fitsG wh g (endsL (toL p)) := ⟨_, rfl⟩
  rw [← hV]
  have HV := hide hV
  clear hV
  refine callsIn_of_wp_marks Tryz.func110 rfl trivial ?_ rfl
  simp only [Tryz.ntmps110, List.size_toArray, List.length_cons, List.length_nil, Nat.reduceAdd, Nat.reduceSub, Array.replicate_succ, Array.replicate_zero, List.push_toArray, List.append_toArray, List.nil_append, List.cons_append]
  gi_wp2_with fail
  refine ⟨trivial, (callsIn_wide.2 (ends_any p _)).mono ?_⟩
  rintro e w1 ⟨rfl, hw1⟩
  have hz1 : w1.heap.size = w.heap.size + 3 := by rw [hw1]; simp
  have hB1 : Below w.heap.size w w1 := by rw [hw1]; exact (((Below.refl _ w).alloc (Nat.le_refl _) _).alloc (by simp) _).alloc (by simp; omega) _
  have r0 : w1.heap[w.heap.size]? = some (.cells #[.pointer (some ⟨bh, 0, none⟩)] 145 (0, 0)) := by
    rw [hw1]
    rw [Below.heap_alloc _ _ _ (by simp <;> omega), Below.heap_alloc _ _ _ (by simp <;> omega)]
    exact World.alloc_heap_new _ _
  have r1 : w1.heap[w.heap.size + 1]? = some (.cells #[.bool false] 4 (0, 0)) := by
    rw [hw1]
    rw [Below.heap_alloc _ _ _ (by simp <;> omega)]
    have h := World.alloc_heap_new (w.alloc (.cells #[.pointer (some ⟨bh, 0, none⟩)] 145)) (Obj.cells #[.bool false] 4)
    simp only [World.size_alloc] at h
    exact h
  have r2 : w1.heap[w.heap.size + 2]? = some (.cells #[.string p] 9 (0, 0)) := by
    rw [hw1]
    have h := World.alloc_heap_new ((w.alloc (.cells #[.pointer (some ⟨bh, 0, none⟩)] 145)).alloc (.cells #[.bool false] 4)) (Obj.cells #[.string p] 9)
    simp only [World.size_alloc] at h
    exact h
  clear hw1
  have e2 : ((w.alloc (Obj.cells #[Value.pointer (some ⟨bh, 0, none⟩)] 145)).alloc (Obj.cells #[Value.bool false] 4)).heap.size = w.heap.size + 2 := by simp
  rw [e2]
  gi_wp2_with fail
  refine wpIn_rangeT (α := ByteArray) rfl (by omega) (gf := 124) (lb := #[.pointer (some ⟨w.heap.size + 2, 0, none⟩)]) rfl trivial
    (enters_of Tryz.func124 (by kernel_rfl) rfl) (L := []) (by intro k hk; simp at hk)
    (ends_seq 4 (w.heap.size + 2) p w1 hp (by omega) r2) (fun _ => rfl)
    (fun X pre W => Hid ((pre.map toL).any (acc g) = false ∧ (wh = true → pre.map toL = [])) ∧ W.heap[w.heap.size]? = some (.cells #[.pointer (some ⟨bh, 0, none⟩)] 145 (0, 0)) ∧ W.heap[w.heap.size + 1]? = some (.cells #[.bool false] 4 (0, 0)) ∧ Below w.heap.size w W)
    (fun X c pre W => c = .ret ∧ W.heap[w.heap.size + 1]? = some (.cells #[.bool V] 4 (0, 0)) ∧ Below w.heap.size w W)
    ?hI ?hIx (fun X hX => ⟨⟨rfl, fun _ => rfl⟩, r0, r1, hB1⟩)
    (fun x => { tmps := #[.pointer (some ⟨bh, 0, none⟩), .string p, .pointer (some ⟨w.heap.size, 0, none⟩), undef, .pointer (some ⟨w.heap.size + 1, 0, none⟩), .string x, .string p,
      .func (.func 124) #[] #[.pointer (some ⟨w.heap.size + 2, 0, none⟩)], .string x, undef, undef, undef, undef, undef, undef, undef, undef, undef, undef], defers := [] }) ?assign ?body ?done ?stop
  case hI =>
    rintro X hX pre A B row ⟨h1, h2, h3, h4⟩ hg hr
    have ne : ∀ k, k < w.heap.size + 3 → ¬ row = some k := fun k hk e => by
      rcases hr k e with h | h
      · simp at h
      · omega
    exact ⟨h1, (hg.block _ (Array.getElem?_eq_some_iff.1 h2).1 (fun e => ne _ (by omega) e.symm)).trans h2, (hg.block _ (Array.getElem?_eq_some_iff.1 h3).1 (fun e => ne _ (by omega) e.symm)).trans h3, h4.grown hg h4.size (fun k e => Nat.le_of_not_lt (fun hk => ne k (by omega) e))⟩
  case hIx =>
    rintro X c hX pre A B row ⟨h1, h3, h4⟩ hg hr
    have ne : ∀ k, k < w.heap.size + 3 → ¬ row = some k := fun k hk e => by
      rcases hr k e with h | h
      · simp at h
      · omega
    exact ⟨h1, (hg.block _ (Array.getElem?_eq_some_iff.1 h3).1 (fun e => ne _ (by omega) e.symm)).trans h3, h4.grown hg h4.size (fun k e => Nat.le_of_not_lt (fun hk => ne k (by omega) e))⟩
  case assign =>
    intro l x W K hK
    gi_wp2
    exact hK
  case body =>
    rintro X l pre x W hX hXW ⟨h1, h2, h3, h4⟩ hlen
    rw [List.map_append] at hlen
    have hlx : (x.size : Int) ≤ 9223372036854775806 := by
      have hm : toL x ∈ endsL (toL p) := hlen.subset (by simp)
      have h := ends_mem _ _ (Nat.le_refl _) _ hm
      rw [size_toL, size_toL] at h
      omega
    have c2 : W.cell? ⟨w.heap.size, 0, none⟩ = some (.pointer (some ⟨bh, 0, none⟩)) := cell_of_row _ _ _ _ _ _ h2
    have rh := (h4.block _ hb).trans hr
    have hrg := held_range rh
    have hsz : (Tryz.prog.info? 137).map (·.size) = some (patV g).size := by rw [info_pat, patV_size]
    have HM := hide (fun W => matchM_any g x W hg64 hlx)
    obtain ⟨b, hbb⟩ : ∃ b, b = acc g (toL x) := ⟨_, rfl⟩
    rw [matchP_acc, show x.data.toList = toL x from rfl, ← hbb] at HM
    have HY := hide (show b = true → V = true from fun h => by rw [HV.out]; exact fitsG_yes hlen h1.out.2 (by rw [← hbb]; exact h))
    have HN := hide (show b = false → wh = true → V = false from fun h hw => by
      rw [HV.out]
      have h5 := fitsG_no (g := g) hlen (h1.out.2 hw) (by rw [← hbb]; exact h)
      rw [hw]; exact h5)
    have HC := hide (show b = false → wh = false → (((pre ++ [x]).map toL).any (acc g) = false ∧ (wh = true → (pre ++ [x]).map toL = [])) from fun h hw => by
      refine ⟨?_, fun h2 => by rw [hw] at h2; cases h2⟩
      rw [List.map_append, List.any_append, h1.out.1]
      simp [← hbb, h])
    have hxs : w1.heap.size ≤ W.heap.size := by have := hXW; omega
    clear hlen hlx h1 hbb
    gi_wp2_with (with_reducible refine wpListIn_load_at rfl 137 (.tmp 11) rfl bh 2 rfl (patV g) _ hrg Tryz.underlying137 rfl hsz ?_)
    refine ⟨trivial, (CallsIn.inRound l (callsIn_wide.2 (HM.out _))).mono ?_⟩
    rintro e w2 ⟨rfl, hb2⟩
    have hl2 := (Array.getElem?_eq_some_iff.1 h2).1
    have hl3 := (Array.getElem?_eq_some_iff.1 h3).1
    have g2 := (hb2.block _ hl2).trans h2
    have g3 := (hb2.block _ hl3).trans h3
    have gh := (hb2.block _ (Nat.lt_of_lt_of_le hb h4.size)).trans rh
    have d2 : w2.cell? ⟨w.heap.size, 0, none⟩ = some (.pointer (some ⟨bh, 0, none⟩)) := cell_of_row _ _ _ _ _ _ g2
    have d3 : w2.cell? ⟨w.heap.size + 1, 0, none⟩ = some (.bool false) := cell_of_row _ _ _ _ _ _ g3
    have z3 : w2.frozen? ⟨w.heap.size + 1, 0, none⟩ = false := frozen_of_row _ _ _ _ _ g3
    have dh : w2.cell? ⟨bh, 0, none⟩ = some (.bool wh) := by rw [cell_of_row _ _ _ _ _ _ gh, heldV_get _ _ _ _ (by omega)]; rfl
    have hB2 : Below w.heap.size w w2 := h4.trans (hb2.mono h4.size)
    have hK2 : Lies (Its [] w1.heap.size X) W w2 := ⟨hb2.size, fun k hk => hb2.block k (by
      rcases hk with hk | hk
      · simp at hk
      · omega)⟩
    have hK3 : ∀ v : Value, Lies (Its [] w1.heap.size X) W (w2.setCell ⟨w.heap.size + 1, 0, none⟩ v) := fun v => hK2.trans (.grown (grownBy_setCell _ _ _) (fun k hk => by
      have := hb2.size
      rcases hk with hk | hk
      · simp at hk
      · omega) (fun r e hk => by
      cases e
      rcases hk with hk | hk
      · simp at hk
      · simp at hk; omega))
    have hB3 : ∀ v : Value, Below w.heap.size w (w2.setCell ⟨w.heap.size + 1, 0, none⟩ v) := fun v => hB2.setCell (p := ⟨w.heap.size + 1, 0, none⟩) (by simp) _
    clear c2 hrg hsz hb2 rh gh h2 h3 h4 HM hX hXW hxs hl2 hl3 hz1 e2
    cases b with
    | true =>
      have HVt := hide (HY.out rfl)
      clear d2 dh HY HN HC
      gi_wp2_with fail
      refine ⟨hK3 _, rfl, ?_, hB3 _⟩
      rw [HVt.out]; exact heap_setCell_same _ _ _ _ _ _ g3
    | false =>
      cases wh with
      | true =>
        have HVt := hide (HN.out rfl rfl)
        clear HY HN HC
        gi_wp2_with fail
        refine ⟨hK3 _, rfl, ?_, hB3 _⟩
        rw [HVt.out]; exact heap_setCell_same _ _ _ _ _ _ g3
      | false =>
        have HC2 := hide (HC.out rfl rfl)
        clear HY HN HC
        gi_wp2_with fail
        exact ⟨hK2, HC2.out, g2, g3, hB2⟩
  case done =>
    rintro X D xs W hX hD hDX hS ⟨h1, h2, h3, h4⟩ hK
    have c3 : W.cell? ⟨w.heap.size + 1, 0, none⟩ = some (.bool false) := cell_of_row _ _ _ _ _ _ h3
    have z3 : W.frozen? ⟨w.heap.size + 1, 0, none⟩ = false := frozen_of_row _ _ _ _ _ h3
    have HVf := hide (show V = false by rw [HV.out]; exact fitsG_end (by rw [← hS]; exact h1.out.1))
    clear hS h1
    gi_wp2_with fail
    have hK' : (W.setCell ⟨w.heap.size + 1, 0, none⟩ (.bool false)).heap[D]? = some (.deferred (some [])) := (heap_setCell_other _ _ _ _ (by simp; omega)).trans hK
    refine ⟨by simp, .inl ⟨_, _, rfl, run_takeDeferred hK', ?_⟩⟩
    have hc5 : ((W.setCell ⟨w.heap.size + 1, 0, none⟩ (.bool false)).putObj D (.deferred none)).cell? ⟨w.heap.size + 1, 0, none⟩ = some (.bool false) :=
      cell_of_row _ _ _ _ _ _ ((World.putObj_heap_other (by omega)).trans (heap_setCell_same _ _ _ _ _ _ h3))
    refine ⟨.bool false, ?_, by rw [HVf.out], ?_⟩
    · simp [results, Tryz.f110, go_sem, hc5]
    · exact (h4.setCell (p := ⟨w.heap.size + 1, 0, none⟩) (by simp) _).grown (grownBy_putObj' _ D (.deferred none)) (by have := h4.size; simp [World.setCell]; omega) (fun r e => by cases e; omega)
  case stop =>
    rintro X D c pre W hX hD hDX hS ⟨rfl, h3, h4⟩ hK
    gi_wp2_with fail
    refine ⟨by simp, .inl ⟨_, _, rfl, run_takeDeferred hK, ?_⟩⟩
    have hc5 : (W.putObj D (.deferred none)).cell? ⟨w.heap.size + 1, 0, none⟩ = some (.bool V) :=
      cell_of_row _ _ _ _ _ _ ((World.putObj_heap_other (by omega)).trans h3)
    refine ⟨.bool V, ?_, rfl, ?_⟩
    · simp [results, Tryz.f110, go_sem, hc5]
    · exact h4.grown (grownBy_putObj' _ D (.deferred none)) h4.size (fun r e => by cases e; omega)
end Go.Proofs.YteoafohebgfjdaaGreatDoor
/-
  Does a rule match a path? Check, Matches.
-/
namespace Go.Proofs.YteoafohebgfjdaaGreatDoor
open Go.RowKit
set_option maxRecDepth 100000
attribute [local go_sem] World.setCell_drewN' World.alloc_drewN'

theorem fits_any (bh : Nat) (wh mu : Bool) (g : List GPart) (p : ByteArray) (w : World) (hp : (p.size : Int) ≤ 1000000) (hg64 : g.length ≤ 64) (hb : bh < w.heap.size) (hr : w.heap[bh]? = some (.cells (heldV wh mu g) 139 (0, 0))) :
    Calls Tryz.prog 110 #[.pointer (some ⟨bh, 0, none⟩), .string p] w fun e w' => e = .returned (.bool (fitsG wh g (endsL (toL p)))) ∧ Below w.heap.size w w' :=
  callsIn_wide.1 (fits_in bh wh mu g p w hp hg64 hb hr)
theorem fits_eq {pat p : List UInt8} (h : namesL p ≠ []) : fitsL pat p = fitsG (wholeL pat) (partsL pat) (endsL p) := by
  unfold fitsL fitsG
  rw [tails_ends h]
theorem names_none {p : List UInt8} (h : p = [] ∨ rightL p = false) : namesL p = [] := by
  unfold namesL
  rcases h with h | h
  · rw [h]; rfl
  · rw [h]; simp
theorem names_some {p : List UInt8} (h : p ≠ []) (hr : rightL p = true) : namesL p ≠ [] := by
  unfold namesL
  rw [hr]
  have : p.isEmpty = false := by cases p with | nil => exact absurd rfl h | cons a t => rfl
  rw [this]
  exact splitL_ne p

set_option maxHeartbeats 4000000 in
theorem of_any (kp dir : Bool) (pat p : ByteArray) (w : World) (hs : (pat.size : Int) ≤ 1000000) (hp : (p.size : Int) ≤ 1000000) :
    Calls Tryz.prog 100 #[.agg #[.string p, .bool dir], .agg #[.bool kp, .string pat]] w fun e w' => e = .returned (.bool (matchesL (toL pat) (toL p) dir)) ∧ Below w.heap.size w w' := by
  obtain ⟨V, hV⟩ : ∃ V, V = matchesL (toL pat) (toL p) dir := ⟨_, rfl⟩
  rw [← hV]
  obtain ⟨K, hK⟩ : ∃ K, K = checkL (toL pat) := ⟨_, rfl⟩
  obtain ⟨wh, hwh⟩ : ∃ wh, wh = wholeL (toL pat) := ⟨_, rfl⟩
  obtain ⟨mu, hmu⟩ : ∃ mu, mu = mustL (toL pat) := ⟨_, rfl⟩
  obtain ⟨g, hg⟩ : ∃ g, g = partsL (toL pat) := ⟨_, rfl⟩
  have HBad := hide (show K ≠ 0 → V = false from fun h => by rw [hV]; exact matchesL_bad (by rw [← hK]; exact h))
  have HNo := hide (show namesL (toL p) = [] → V = false from fun h => by rw [hV]; exact matchesL_no h)
  have HDir := hide (show mu = true → dir = false → V = false from fun h h2 => by rw [hV]; exact matchesL_dir (by rw [← hmu]; exact h) h2)
  have HFits := hide (show K = 0 → namesL (toL p) ≠ [] → (mu = false ∨ dir = true) → V = fitsG wh g (endsL (toL p)) from fun h h2 h3 => by
    rw [hV, matchesL_fits (by rw [← hK]; exact h) h2 (by rw [← hmu]; exact h3), fits_eq h2, hwh, hg])
  have HOk := hide (show K = 0 → g.length ≤ 64 from fun h => by
    obtain ⟨h1, _, h3⟩ := checkL_ok (hK.symm.trans h)
    have h4 := parts_few h3 (by have := coreL_len (toL pat); omega)
    rw [hg]; exact h4)
  have HRead := hide (show ∀ W, Calls Tryz.prog 109 #[.string pat] W fun e w' => e = .returned (.tuple #[.agg (if K = 0 then heldV wh mu g else heldV false false []), .int .i64 (K : Nat)]) ∧ Below W.heap.size W w' from fun W => by
    have h := read_any pat W hs
    unfold readH at h
    rw [← hK, ← hwh, ← hmu, ← hg] at h
    exact h)
  have HRight := hide (fun W => right_any p W (by omega))
  have hz := zero_held
  clear hV hK hwh hmu hg
  cases he : p.toList.isEmpty with
  | true =>
    have HF := hide (HNo.out (names_none (.inl (empty_iff'.1 he))))
    go_enter Tryz.func100, Tryz.ntmps100
    go_wp2_with fail
    refine bodyPost_ret (results_tmp rfl _ _ _) rfl ⟨by rw [HF.out]; rfl, ?_⟩
    exact ((Below.refl _ _).alloc (Nat.le_refl _) _).alloc (by simp) _
  | false =>
    have HNE := hide (show toL p ≠ [] from fun h => by rw [empty_iff'.2 h] at he; cases he)
    obtain ⟨rb, hrb⟩ : ∃ rb, rb = rightL (toL p) := ⟨_, rfl⟩
    have HR0 := hide (show rb = false → V = false from fun h => HNo.out (names_none (.inr (by rw [← hrb]; exact h))))
    have HR1 := hide (show rb = true → namesL (toL p) ≠ [] from fun h => names_some HNE.out (by rw [← hrb]; exact h))
    have HRight2 := hide (show ∀ W, Calls Tryz.prog 71 #[.string p] W fun e w' => e = .returned (.bool rb) ∧ Below W.heap.size W w' from fun W => by rw [hrb]; exact HRight.out W)
    clear HRight hrb
    go_enter Tryz.func100, Tryz.ntmps100
    cases rb with
    | false =>
      have HF := hide (HR0.out rfl)
      go_wp2_with (go_at_call 71; refine (HRight2.out _).mono ?_; rintro e w1 ⟨rfl, hb1⟩)
      refine bodyPost_ret (results_tmp rfl _ _ _) rfl ⟨by rw [HF.out]; rfl, ?_⟩
      exact (((Below.refl _ w).alloc (Nat.le_refl _) _).alloc (by simp) _).trans (hb1.mono (by simp; omega))
    | true =>
      have HN := hide (HR1.out rfl)
      clear HR0 HR1
      go_wp2_with fail
      refine (HRight2.out _).mono ?_
      rintro e w1 ⟨rfl, hb1⟩
      have hB1 : Below w.heap.size w w1 := (((Below.refl _ w).alloc (Nat.le_refl _) _).alloc (by simp) _).trans (hb1.mono (by simp; omega))
      have a0 : w1.heap[w.heap.size]? = some (.cells #[.string p, .bool dir] 117 (0, 0)) := (hb1.block _ (by simp; omega)).trans (heap_alloc2_old _ _ _)
      have a1 : w1.heap[w.heap.size + 1]? = some (.cells #[.bool kp, .string pat] 57 (0, 0)) := (hb1.block _ (by simp)).trans (heap_alloc2_new _ _ _)
      have c1 : w1.cell? ⟨w.heap.size + 1, 1, none⟩ = some (.string pat) := cell_of_row _ _ _ _ _ _ a1
      clear hb1 a1
      go_wp2_with fail
      refine (HRead.out _).mono ?_
      rintro e w3 ⟨rfl, hb3⟩
      have hB3 := hB1.trans (hb3.mono hB1.size)
      have a3 := (hb3.block _ (Array.getElem?_eq_some_iff.1 a0).1).trans a0
      have hl3 := (Array.getElem?_eq_some_iff.1 a3).1
      clear hb3 a0 c1 hB1
      by_cases hK0 : K = 0
      · subst hK0
        rw [if_pos rfl]
        have hst := store_held false false wh mu [] g w3.heap.size (w3.alloc (Obj.cells (heldV false false []) 139)) (heap_alloc_new _ _)
        have hhs := heldV_size wh mu g
        obtain ⟨w4, hw4⟩ : ∃ w4, w4 = (w3.alloc (Obj.cells (heldV false false []) 139)).setRow w3.heap.size (heldV wh mu g) := ⟨_, rfl⟩
        rw [← hw4] at hst
        have rh : w4.heap[w3.heap.size]? = some (.cells (heldV wh mu g) 139 (0, 0)) := by rw [hw4]; exact setRow_heap _ _ _ _ _ _ (heap_alloc_new _ _)
        have a4 : w4.heap[w.heap.size]? = some (.cells #[.string p, .bool dir] 117 (0, 0)) := by rw [hw4]; exact (setRow_other _ _ _ _ (by omega)).trans ((Below.heap_alloc _ _ _ hl3).trans a3)
        have hB4 : Below w.heap.size w w4 := by rw [hw4]; exact below_setRow (hB3.alloc hB3.size _) hB3.size _
        have c0 : w4.cell? ⟨w.heap.size, 0, none⟩ = some (.string p) := cell_of_row _ _ _ _ _ _ a4
        have c1 : w4.cell? ⟨w.heap.size, 1, none⟩ = some (.bool dir) := cell_of_row _ _ _ _ _ _ a4
        have d1 : w4.cell? ⟨w3.heap.size, 1, none⟩ = some (.bool mu) := by rw [cell_of_row _ _ _ _ _ _ rh, heldV_get _ _ _ _ (by omega)]; rfl
        have hmd : (mu = true ∧ dir = false) ∨ mu = false ∨ (mu = true ∧ dir = true) := by cases mu <;> cases dir <;> simp
        have HG := hide (HOk.out rfl)
        have HLT := hide (Array.getElem?_eq_some_iff.1 rh).1
        clear hw4 a3 hB3 hl3 a4
        rcases hmd with ⟨rfl, rfl⟩ | hmd
        · have HF := hide (HDir.out rfl rfl)
          go_wp2_with fail
          exact bodyPost_ret (results_tmp rfl _ _ _) rfl ⟨by rw [HF.out]; rfl, hB4⟩
        · have HV := hide (HFits.out rfl HN.out (hmd.elim .inl fun h => .inr h.2))
          have HFit := hide (fits_any w3.heap.size wh mu g p w4 hp HG.out HLT.out rh)
          rw [← HV.out] at HFit
          clear rh
          rcases hmd with rfl | ⟨rfl, rfl⟩
          all_goals
            go_wp2_with fail
            refine (HFit.out).mono ?_
            rintro e w5 ⟨rfl, hb5⟩
            go_wp2_with fail
            exact bodyPost_ret (results_tmp rfl _ _ _) rfl ⟨rfl, hB4.trans (hb5.mono hB4.size)⟩
      · have HF := hide (HBad.out hK0)
        rw [if_neg hK0]
        have hst := store_held false false false false [] [] w3.heap.size (w3.alloc (Obj.cells (heldV false false []) 139)) (heap_alloc_new _ _)
        have hhs := heldV_size false false []
        have HB4 := hide (below_setRow (hB3.alloc hB3.size (Obj.cells (heldV false false []) 139)) hB3.size (heldV false false []))
        have hk1 : ((K : Int) == 0) = false := by rw [beq_eq_false_iff_ne]; omega
        have hk2 : ((K : Int) != 0) = true := by rw [bne, hk1]; rfl
        clear hK0 a3 hB3
        go_wp2_with fail
        exact bodyPost_ret (results_tmp rfl _ _ _) rfl ⟨by rw [HF.out]; rfl, HB4.out⟩
end Go.Proofs.YteoafohebgfjdaaGreatDoor
/-
  The reference's rows, in memory: what Match goes over.
-/
namespace Go.Proofs.YteoafohebgfjdaaGreatDoor
open Go.RowKit
set_option maxRecDepth 100000

/-- Parts that lie at an address, one behind the other, and their sets, all below block B. -/
def RdP (w : World) (B : Nat) (A : Option Addr) (l : List RPart) : Prop :=
  ∀ k p, l[k]? = some p → ∃ (ad : Addr) (A' : Option Addr) (c' : Nat), A = some ad ∧ ad.block < B ∧ RdB w B A' p.ins ∧ p.ins.length ≤ 100000 ∧
    ∀ j v, #[Value.int .i64 p.many, .slice A' p.ins.length c', .bool p.no, .bool p.any][j]? = some v → w.cell? ((ad.add (k * 4)).add j) = some v
theorem RdP.below {w w' : World} {B B' : Nat} {A : Option Addr} {l : List RPart} (h : RdP w B A l) (hb : Below B' w w') (hB : B ≤ B') : RdP w' B A l := fun k p hx => by
  obtain ⟨ad, A', c', e, hlt, hr, hl, hc⟩ := h k p hx
  exact ⟨ad, A', c', e, hlt, hr.below hb hB, hl, fun j v hv => (hb.cell (by rw [add_block, add_block]; omega)).trans (hc j v hv)⟩
/-- A row of truth values, in a block. -/
def Row (w : World) (b : Nat) (r : List Bool) : Prop := w.heap[b]? = some (.cells (r.map Value.bool).toArray 4 (0, 0))

theorem info_bool : (Tryz.prog.info? 4).map (fun i => (i.zero, i.size, i.bytes)) = some (some (.bool false), 1, 1) := by kernel_rfl
theorem info_b {i : Option TypeInfo} {a b : Nat} {v : Value} (h : i.map (fun i => (i.zero, i.size, i.bytes)) = some (some v, a, b)) : ∃ i0, i = some i0 ∧ i0.zero = some v ∧ i0.size = a ∧ i0.bytes = b := by
  cases i with
  | none => simp at h
  | some i0 => simp at h; exact ⟨i0, rfl, h.1, h.2.1, h.2.2⟩
theorem madeF (q : Nat) : madeCells (Value.cells (.bool false)) (q * 1) = ((List.replicate q false).map Value.bool).toArray := by
  apply Array.ext'
  unfold madeCells
  simp [Value.cells, Nat.mod_one, List.map_const']
theorem make_any (q : Nat) (hq : q ≤ 16777216) (W : World) : (Instr.makeSlice 124 (.int .i64 (q : Nat)) (.int .i64 (q : Nat))).run Tryz.prog W = .ok (.slice (some ⟨W.heap.size, 0, none⟩) q q) (W.alloc (.cells ((List.replicate q false).map Value.bool).toArray 4)) := by
  obtain ⟨i0, hi, hz, h1, h2⟩ := info_b info_bool
  have h := run_makeSlice (P := Tryz.prog) (w := W) 124 4 i0 (.bool false) Tryz.underlying124 hi hz .i64 .i64 (q : Int) (q : Int) (by omega) (Int.le_refl _) (by rw [h1]; simp; omega) (by rw [h2]; omega) (by omega)
  rw [h, h1]
  simp only [Int.toNat_natCast]
  rw [madeF]
/-- The row of the parts from j on. -/
def rowL (l : List RPart) (s : List UInt8) (j : Nat) : List Bool := (List.range (s.length + 1)).map (rowAt l s j)
/-- The row of the parts from j on, where it is known from i on. -/
def rowTo (l : List RPart) (s : List UInt8) (j i : Nat) : List Bool := (List.range (s.length + 1)).map fun x => if i ≤ x then rowAt l s j x else false
theorem rowTo_all (l : List RPart) (s : List UInt8) (j : Nat) : rowTo l s j 0 = rowL l s j := by unfold rowTo rowL; simp
theorem rowTo_none (l : List RPart) (s : List UInt8) (j : Nat) : rowTo l s j (s.length + 1) = List.replicate (s.length + 1) false := by
  unfold rowTo
  apply List.ext_getElem?
  intro x
  rw [List.getElem?_map, List.getElem?_replicate]
  by_cases h : x < s.length + 1
  · rw [List.getElem?_range h, if_pos h, Option.map_some, if_neg (by omega)]
  · rw [List.getElem?_eq_none (by simp; omega), if_neg h]; rfl
theorem rowTo_set (l : List RPart) (s : List UInt8) (j i : Nat) : (rowTo l s j (i + 1)).set i (rowAt l s j i) = rowTo l s j i := by
  apply List.ext_getElem?
  intro x
  unfold rowTo
  rw [List.getElem?_set, List.getElem?_map, List.getElem?_map, List.length_map, List.length_range]
  by_cases h : i = x
  · subst h
    rw [if_pos rfl]
    by_cases hi : i < s.length + 1
    · rw [if_pos hi, List.getElem?_range hi, Option.map_some, if_pos (Nat.le_refl _)]
    · rw [if_neg hi, List.getElem?_eq_none (by simp; omega)]; rfl
  · rw [if_neg h]
    by_cases hx : x < s.length + 1
    · rw [List.getElem?_range hx, Option.map_some, Option.map_some]
      by_cases h1 : i ≤ x
      · rw [if_pos (by omega), if_pos h1]
      · rw [if_neg (by omega), if_neg h1]
    · rw [List.getElem?_eq_none (by simp; omega)]; rfl
theorem rowTo_at (l : List RPart) (s : List UInt8) (j i x : Nat) (h : i ≤ x) (hx : x ≤ s.length) : (rowTo l s j i)[x]? = some (rowAt l s j x) := by
  unfold rowTo
  rw [List.getElem?_map, List.getElem?_range (by omega), Option.map_some, if_pos h]
theorem rowL_at (l : List RPart) (s : List UInt8) (j x : Nat) (hx : x ≤ s.length) : (rowL l s j)[x]? = some (rowAt l s j x) := by
  rw [← rowTo_all]; exact rowTo_at l s j 0 x (Nat.zero_le _) hx
theorem rowL_end (l : List RPart) (s : List UInt8) : (List.replicate (s.length + 1) false).set s.length true = rowL l s l.length := by
  apply List.ext_getElem?
  intro x
  unfold rowL
  rw [List.getElem?_set, List.length_replicate, List.getElem?_replicate, List.getElem?_map]
  by_cases h : s.length = x
  · rw [if_pos h, if_pos (by omega), List.getElem?_range (by omega), Option.map_some, rowAt_end l s x (by omega), decide_eq_true h.symm]
  · rw [if_neg h]
    by_cases hx : x < s.length + 1
    · rw [if_pos hx, List.getElem?_range hx, Option.map_some, rowAt_end l s x (by omega), decide_eq_false (fun e => h e.symm)]
    · rw [if_neg hx, List.getElem?_eq_none (by simp; omega)]; rfl
theorem Row.cell {w : World} {b x : Nat} {r : List Bool} {v : Bool} (h : Row w b r) (hx : r[x]? = some v) : w.cell? ⟨b, x, none⟩ = some (.bool v) := by
  unfold Row at h
  refine (cell_of_row _ _ _ _ _ _ h).trans ?_
  rw [List.getElem?_toArray, List.getElem?_map, hx]; rfl
theorem Row.frozen {w : World} {b x : Nat} {r : List Bool} (h : Row w b r) : w.frozen? ⟨b, x, none⟩ = false := frozen_of_row _ _ _ _ _ h
theorem Row.set {w : World} {b x : Nat} {r : List Bool} (h : Row w b r) (v : Bool) : Row (w.setCell ⟨b, x, none⟩ (.bool v)) b (r.set x v) := by
  unfold Row at h ⊢
  rw [heap_setCell_same _ _ _ _ _ _ h, List.setIfInBounds_toArray, List.map_set]
theorem Row.other {w : World} {b g x : Nat} {r : List Bool} (h : Row w b r) (hn : b ≠ g) (v : Value) : Row (w.setCell ⟨g, x, none⟩ v) b r := (heap_setCell_other _ _ _ _ (by simpa using hn)).trans h

theorem row_fin {w W : World} {b g ii kk : Nat} {l : List RPart} {S : List UInt8} {R : List Bool} {v : Bool} (Rg : Row W g (rowTo l S kk (ii + 1))) (Rb : Row W b R) (hB : Below w.heap.size w W) (hbg : b ≠ g) (hwg : w.heap.size ≤ g) (hv : rowAt l S kk ii = v) :
    Row (W.setCell ⟨g, ii, none⟩ (.bool v)) g (rowTo l S kk ii) ∧ Row (W.setCell ⟨g, ii, none⟩ (.bool v)) b R ∧ Below w.heap.size w (W.setCell ⟨g, ii, none⟩ (.bool v)) := by
  have h := Rg.set (x := ii) v
  rw [← hv, rowTo_set, hv] at h
  exact ⟨h, Rb.other hbg _, hB.setCell (p := ⟨g, ii, none⟩) hwg _⟩

/-- The truth value in a cell. -/
def boolIn (a : Addr) (w : World) : Bool := match w.cell? a with | some (.bool b) => b | _ => false
theorem boolIn_of {a : Addr} {w : World} {b : Bool} (h : w.cell? a = some (.bool b)) : boolIn a w = b := by unfold boolIn; rw [h]
/-- What a round of Match goes over: the part, the row behind it, and its own row. -/
def MS (w : World) (ad : Addr) (A' : Option Addr) (c' : Nat) (p : RPart) (b g ii i1 : Nat) (rv : Bool) (R G : List Bool) (W : World) : Prop :=
  Below w.heap.size w W ∧ W.cell? ad = some (.int .i64 p.many) ∧ W.cell? ⟨ad.block, ad.off + 1, none⟩ = some (.slice A' p.ins.length c') ∧ W.cell? ⟨ad.block, ad.off + 2, none⟩ = some (.bool p.no) ∧ W.cell? ⟨ad.block, ad.off + 3, none⟩ = some (.bool p.any) ∧ W.cell? ⟨b, i1, none⟩ = some (.bool rv) ∧ W.cell? ⟨g, ii, none⟩ = some (.bool (boolIn ⟨g, ii, none⟩ W)) ∧ W.frozen? ⟨g, ii, none⟩ = false ∧ Row W b R ∧ Row W g (G.set ii (boolIn ⟨g, ii, none⟩ W))
theorem MS.call {w : World} {ad : Addr} {A' : Option Addr} {c' : Nat} {p : RPart} {b g ii i1 : Nat} {rv : Bool} {R G : List Bool} {W W2 : World} (h : MS w ad A' c' p b g ii i1 rv R G W) (hb : Below W.heap.size W W2) : MS w ad A' c' p b g ii i1 rv R G W2 := by
  obtain ⟨h10, h1, h2, h3, h4, h5, h6, h7, h8, h9⟩ := h
  have e6 : W2.cell? ⟨g, ii, none⟩ = some (.bool (boolIn ⟨g, ii, none⟩ W)) := (hb.cell (cell_lt h6)).trans h6
  have r9 : Row W2 g (G.set ii (boolIn ⟨g, ii, none⟩ W)) := (hb.block _ (Array.getElem?_eq_some_iff.1 h9).1).trans h9
  refine ⟨h10.trans (hb.mono h10.size), (hb.cell (cell_lt h1)).trans h1, (hb.cell (cell_lt h2)).trans h2, (hb.cell (cell_lt h3)).trans h3, (hb.cell (cell_lt h4)).trans h4, (hb.cell (cell_lt h5)).trans h5, by rw [boolIn_of e6]; exact e6, r9.frozen, (hb.block _ (Array.getElem?_eq_some_iff.1 h8).1).trans h8, by rw [boolIn_of e6]; exact r9⟩
theorem MS.store {w : World} {ad : Addr} {A' : Option Addr} {c' : Nat} {p : RPart} {b g ii i1 : Nat} {rv : Bool} {R G : List Bool} {W : World} (h : MS w ad A' c' p b g ii i1 rv R G W) (hg : ad.block ≠ g) (hbg : b ≠ g) (hw : w.heap.size ≤ g) (v : Bool) : MS w ad A' c' p b g ii i1 rv R G (W.setCell ⟨g, ii, none⟩ (.bool v)) := by
  obtain ⟨h10, h1, h2, h3, h4, h5, h6, h7, h8, h9⟩ := h
  have r9 := h9.set (x := ii) v
  rw [List.set_set] at r9
  have e6 : (W.setCell ⟨g, ii, none⟩ (.bool v)).cell? ⟨g, ii, none⟩ = some (.bool v) := World.cell?_setCell_same (h := h6) ..
  refine ⟨h10.setCell (p := ⟨g, ii, none⟩) hw _, ?_, ?_, ?_, ?_, ?_, by rw [boolIn_of e6]; exact e6, r9.frozen, h8.other hbg _, by rw [boolIn_of e6]; exact r9⟩
  · exact (World.cell?_setCell_other (h := fun e => hg (congrArg Addr.block e).symm) ..).trans h1
  · exact (World.cell?_setCell_other (h := fun e => hg (congrArg Addr.block e).symm) ..).trans h2
  · exact (World.cell?_setCell_other (h := fun e => hg (congrArg Addr.block e).symm) ..).trans h3
  · exact (World.cell?_setCell_other (h := fun e => hg (congrArg Addr.block e).symm) ..).trans h4
  · exact (World.cell?_setCell_other (h := fun e => hbg (congrArg Addr.block e).symm) ..).trans h5
theorem cell_setx {W : World} {b x : Nat} {v u : Value} (h : (W.setCell ⟨b, x, none⟩ v).cell? ⟨b, x, none⟩ = some u) : (W.setCell ⟨b, x, none⟩ v).cell? ⟨b, x, none⟩ = some v := by
  cases hc : W.cell? ⟨b, x, none⟩ with
  | some y => exact World.cell?_setCell_same (h := hc) ..
  | none =>
    exfalso
    simp only [World.setCell, World.cell?, Array.getElem?_modify, if_true] at h hc
    cases hh : W.heap[b]? with
    | none => rw [hh] at h; simp at h
    | some o =>
      rw [hh] at h hc
      cases o with
      | cells c e f =>
        simp at h hc
        have h9 : c.size ≤ x := hc
        rw [Array.getElem?_eq_none (by simpa using h9)] at h
        simp at h
      | _ => simp at h
theorem MS.fin' {w : World} {ad : Addr} {A' : Option Addr} {c' : Nat} {p : RPart} {b g ii i1 kk : Nat} {rv v : Bool} {R S : List _} {l : List RPart} {W : World} (h : MS w ad A' c' p b g ii i1 rv R (rowTo l S kk (ii + 1)) (W.setCell ⟨g, ii, none⟩ (.bool v))) (hv : rowAt l S kk ii = v) :
    Row (W.setCell ⟨g, ii, none⟩ (.bool v)) g (rowTo l S kk ii) ∧ Row (W.setCell ⟨g, ii, none⟩ (.bool v)) b R ∧ Below w.heap.size w (W.setCell ⟨g, ii, none⟩ (.bool v)) := by
  obtain ⟨h10, _, _, _, _, _, h6, _, h8, h9⟩ := h
  rw [boolIn_of (cell_setx h6), ← hv, rowTo_set, hv] at h9
  exact ⟨h9, h8, h10⟩
end Go.Proofs.YteoafohebgfjdaaGreatDoor
