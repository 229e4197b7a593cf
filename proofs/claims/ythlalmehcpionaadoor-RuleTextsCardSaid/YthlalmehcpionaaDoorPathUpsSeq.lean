/-
  paths.Ups: the iterator's contract, over paths.Names's.
-/
import Derived.Test.YthlalmehcpionaaDoorPathB
import Derived.Shelf.RegionOpen
namespace Go.Proofs.YthlalmehcpionaaDoor
open Go.RowKit Go.Shelf
set_option maxRecDepth 100000

def endL (l : List (List UInt8)) : Nat := (l.map (fun x => x.length + 1)).sum
/-- The paths that a path is under. -/
def upsL (p : List UInt8) : List (List UInt8) := (List.range (namesL p).length).map fun i => p.take (endL ((namesL p).take i) - 1)

theorem upsL_len (p : List UInt8) : (upsL p).length = (namesL p).length := by simp [upsL]

theorem endL_split : ∀ l : List UInt8, endL (splitL l) = l.length + 1
  | [] => rfl
  | c :: r => by
    have ih := endL_split r
    unfold splitL
    split
    · simp [endL] at ih ⊢; omega
    · cases h : splitL r with
      | nil => exact absurd h (splitL_ne r)
      | cons a t =>
        rw [h] at ih
        simp [endL] at ih ⊢; omega

theorem endL_append (a b : List (List UInt8)) : endL (a ++ b) = endL a + endL b := by simp [endL]

theorem names_prefix (p : List UInt8) (a : List (List UInt8)) (x : List UInt8) (h : a ++ [x] <+: namesL p) :
    a.length < (namesL p).length ∧ a = (namesL p).take a.length ∧ endL a + (x.length + 1) ≤ p.length + 1 := by
  obtain ⟨t, ht⟩ := h
  refine ⟨by rw [← ht]; simp, by rw [← ht]; simp, ?_⟩
  have hs : namesL p = splitL p := by
    unfold namesL at ht ⊢
    split
    · rename_i hc; rw [if_pos hc] at ht; simp at ht
    · rfl
  have := endL_split p
  rw [← hs, ← ht, endL_append, endL_append] at this
  have e : endL [x] = x.length + 1 := by simp [endL]
  omega

theorem upsL_take (p : List UInt8) (k : Nat) (h : k < (namesL p).length) : (upsL p).take (k + 1) = (upsL p).take k ++ [p.take (endL ((namesL p).take k) - 1)] := by
  have h' : k < (upsL p).length := by rw [upsL_len]; exact h
  rw [List.take_succ_eq_append_getElem h']
  congr 1
  simp [upsL]

attribute [local go_sem] Oper.semAt_some
set_option maxRecDepth 100000 in
set_option maxHeartbeats 2000000 in
theorem ups_seq (n : Nat) (b : Nat) (p : ByteArray) (w : World) (hp : (p.size : Int) ≤ 9223372036854775800) (hb : b < w.heap.size) (c : w.heap[b]? = some (.cells #[.string p] 9 (0, 0))) :
    SeqT Fence.wide n Tryd.prog 48 #[.pointer (some ⟨b, 0, none⟩)] (fun x : ByteArray => #[.string x]) [b]
      (fun xs => xs.map toL = upsL (toL p)) (fun pre => pre.map toL <+: upsL (toL p)) w := by
  refine seqT_any (n := 5) ?_
  obtain ⟨T, hT⟩ : ∃ T, T = upsL (toL p) := ⟨_, rfl⟩
  rw [← hT]
  have HT := hide hT
  clear hT
  intro l J Jx W hW hJ hJx hY h0
  have k1 : W.heap[b]? = some (.cells #[.string p] 9 (0, 0)) := (hW.block _ hb).trans c
  have hbW : b < W.heap.size := Nat.lt_of_lt_of_le hb hW.size
  clear c hW hb
  have d1 : W.cell? ⟨b, 0, none⟩ = some (.string p) := cell_of_row _ _ _ _ _ _ k1
  have dA : ∀ o o' : Obj, ((W.alloc o).alloc o').cell? ⟨b, 0, none⟩ = some (.string p) := fun o o' => cell_of_row _ _ _ _ _ _ (((Below.heap_alloc _ _ _ (by simp; omega)).trans (Below.heap_alloc _ _ _ hbW)).trans k1)
  refine callsIn_of_wp_marks Tryd.func48 rfl trivial ?_ rfl
  simp only [Tryd.ntmps48, List.size_toArray, List.length_cons, List.length_nil, Nat.reduceAdd, Nat.reduceSub, Array.replicate_succ, Array.replicate_zero, List.push_toArray, List.append_toArray, List.nil_append, List.cons_append]
  gi_wp2_with fail
  refine ⟨trivial, (callsIn_wide.2 (names_any p _)).mono ?_⟩
  rintro e w1 ⟨rfl, hw1⟩
  have hz1 : w1.heap.size = W.heap.size + 3 := by rw [hw1]; simp
  have kB : w1.heap[b]? = some (.cells #[.string p] 9 (0, 0)) := by
    rw [hw1, Below.heap_alloc _ _ _ (by simp; omega), Below.heap_alloc _ _ _ (by simp; omega), Below.heap_alloc _ _ _ hbW]; exact k1
  have kY : w1.heap[W.heap.size]? = some (.cells #[.func (.yield l) #[] #[]] 34 (0, 0)) := by
    rw [hw1, Below.heap_alloc _ _ _ (by simp <;> omega), Below.heap_alloc _ _ _ (by simp <;> omega)]
    exact World.alloc_heap_new _ _
  have kE : w1.heap[W.heap.size + 1]? = some (.cells #[.int .i64 0] 3 (0, 0)) := by
    rw [hw1, Below.heap_alloc _ _ _ (by simp <;> omega)]
    have h := World.alloc_heap_new (W.alloc (.cells #[.func (.yield l) #[] #[]] 34)) (Obj.cells #[.int .i64 0] 3)
    simp only [World.size_alloc] at h
    exact h
  have kP : w1.heap[W.heap.size + 2]? = some (.cells #[.string p] 9 (0, 0)) := by
    rw [hw1]
    have h := World.alloc_heap_new ((W.alloc (.cells #[.func (.yield l) #[] #[]] 34)).alloc (.cells #[.int .i64 0] 3)) (Obj.cells #[.string p] 9)
    simp only [World.size_alloc] at h
    exact h
  have j1 : ∀ X, W.heap.size ≤ X → J X [] w1 := fun X hX => by
    rw [hw1]
    exact hJ _ hX _ _ _ none (hJ _ hX _ _ _ none (hJ _ hX _ _ _ none (h0 _ hX) (World.grownBy_alloc _ _ none) (fun r e => by cases e)) (World.grownBy_alloc _ _ none) (fun r e => by cases e)) (World.grownBy_alloc _ _ none) (fun r e => by cases e)
  have e2 : ((W.alloc (.cells #[.func (.yield l) #[] #[]] 34)).alloc (.cells #[.int .i64 0] 3)).heap.size = W.heap.size + 2 := by simp
  rw [e2]
  clear hw1 e2 h0 dA d1 k1
  gi_wp2_with fail
  have sub : ∀ X r, w1.heap.size ≤ X → Its [] w1.heap.size X r → Its [b] W.heap.size X r := fun X r hX h => by
    rcases h with h | h
    · simp at h
    · exact .inr ⟨by omega, h.2⟩
  refine wpIn_rangeT (α := ByteArray) rfl (by omega) (gf := 61) (lb := #[.pointer (some ⟨W.heap.size + 2, 0, none⟩)]) rfl trivial
    (enters_of Tryd.func61 (by kernel_rfl) rfl) (L := []) (by intro k hk; simp at hk)
    (names_seq 4 (W.heap.size + 2) p w1 hp (by omega) kP) (fun _ => rfl)
    (fun X pre WW => (∃ us : List ByteArray, us.map toL = T.take pre.length ∧ J X us WW) ∧ WW.heap[W.heap.size]? = some (.cells #[.func (.yield l) #[] #[]] 34 (0, 0)) ∧
      WW.heap[W.heap.size + 1]? = some (.cells #[.int .i64 (endL (pre.map toL) : Nat)] 3 (0, 0)) ∧ WW.heap[b]? = some (.cells #[.string p] 9 (0, 0)))
    (fun X c pre WW => c = .ret ∧ ∃ us : List ByteArray, us.map toL <+: T ∧ Jx X us WW)
    ?hI ?hIx (fun X hX => ⟨⟨[], rfl, j1 X (by omega)⟩, kY, kE, kB⟩)
    (fun x => { tmps := #[.func (.yield l) #[] #[], .pointer (some ⟨b, 0, none⟩), .pointer (some ⟨W.heap.size, 0, none⟩), .pointer (some ⟨W.heap.size + 1, 0, none⟩), .string x, .string p,
      .func (.func 61) #[] #[.pointer (some ⟨W.heap.size + 2, 0, none⟩)], .string x, undef, undef, undef, undef, undef, undef, undef, undef, undef, undef, undef, undef, undef], defers := [] }) ?assign ?body ?done ?stop
  case hI =>
    rintro X hX pre A B row ⟨⟨us, h1, h2⟩, h3, h4, h5⟩ hg hr
    have ne : ∀ k, k < W.heap.size + 3 → ¬ row = some k := fun k hk e => by
      rcases hr k e with h | h
      · simp at h
      · omega
    exact ⟨⟨us, h1, hJ X (by omega) _ _ _ _ h2 hg (fun r e => sub X r (by omega) (hr r e))⟩, (hg.block _ (Array.getElem?_eq_some_iff.1 h3).1 (fun e => ne _ (by omega) e.symm)).trans h3,
      (hg.block _ (Array.getElem?_eq_some_iff.1 h4).1 (fun e => ne _ (by omega) e.symm)).trans h4, (hg.block _ (Array.getElem?_eq_some_iff.1 h5).1 (fun e => ne _ (by omega) e.symm)).trans h5⟩
  case hIx =>
    rintro X c hX pre A B row ⟨h1, us, h2, h3⟩ hg hr
    exact ⟨h1, us, h2, hJx X (by omega) _ _ _ _ h3 hg (fun r e => sub X r (by omega) (hr r e))⟩
  case assign =>
    intro ll x WW K hK
    gi_wp2
    exact hK
  case body =>
    rintro X ll pre x WW hX hXW ⟨⟨us, h1, h2⟩, h3, h4, h5⟩ hpre
    have hpre : pre.map toL ++ [toL x] <+: namesL (toL p) := by simpa using hpre
    obtain ⟨q1, q2, q3⟩ := names_prefix _ _ _ hpre
    rw [List.length_map] at q1 q2
    have hxs : (toL x).length = x.size := by simp [toL]
    have hps : (toL p).length = p.size := by simp [toL]
    obtain ⟨E, hE⟩ : ∃ E, E = endL (pre.map toL) := ⟨_, rfl⟩
    rw [← hE] at h4 q3
    rw [hxs, hps] at q3
    obtain ⟨k, hk⟩ : ∃ k, k = E - 1 := ⟨_, rfl⟩
    have hm : (if (E : Int) - 1 < 0 then (0 : Int) else (E : Int) - 1) = (k : Int) := by split <;> omega
    have hw : IntKind.i64.wrap ((E : Int) - 1) = (E : Int) - 1 := by
      rw [IntKind.wrap_i64]; omega
    have hks : (k : Int) ≤ p.size := by omega
    have c3 : WW.cell? ⟨W.heap.size, 0, none⟩ = some (.func (.yield l) #[] #[]) := cell_of_row _ _ _ _ _ _ h3
    have c4 : WW.cell? ⟨W.heap.size + 1, 0, none⟩ = some (.int .i64 (E : Nat)) := cell_of_row _ _ _ _ _ _ h4
    have c5 : WW.cell? ⟨b, 0, none⟩ = some (.string p) := cell_of_row _ _ _ _ _ _ h5
    have hmx : Tryd.prog.follows .mixedOrders = true := by kernel_rfl
    have hd2 : J X us WW.drew := hJ X (by omega) _ _ _ none h2 ⟨rfl, rfl, rfl, Nat.le_refl _, fun _ _ _ => rfl⟩ (fun r e => by cases e)
    have hy1 : toL (p.extract 0 k) = (toL p).take k := by unfold toL; rw [Lib.extract_data]; simp
    have hU : (us ++ [p.extract 0 k]).map toL = T.take (pre.length + 1) := by
      rw [HT.out, upsL_take _ _ q1, List.map_append, h1, HT.out, ← q2, ← hE, ← hk]
      simp [hy1]
    obtain ⟨fn, tmps, assign, body, hy, hR⟩ := hY X us (p.extract 0 k) WW.drew (by omega) hXW hd2 (show _ <+: _ by rw [hU]; exact List.take_prefix _ _)
    have HR := hide (show RoundIn Fence.wide 4 Tryd.prog l fn tmps assign body WW.drew (fun e W' => ∃ ok : Bool, e = .returned (.bool ok) ∧ Lies (Its [b] W.heap.size X) WW W' ∧ ((ok = true ∧ J X (us ++ [p.extract 0 k]) W') ∨ (ok = false ∧ Jx X (us ++ [p.extract 0 k]) W'))) from
      hR.mono (by
        rintro e W' (⟨rfl, hJ', hk⟩ | ⟨rfl, hJ', hk⟩)
        · exact ⟨true, rfl, hk, .inl ⟨rfl, hJ'⟩⟩
        · exact ⟨false, rfl, hk, .inr ⟨rfl, hJ'⟩⟩))
    have HU := hide hU
    have HE := hide hE
    have HJ := hide hJ
    clear hR hY hpre hJ hJx hd2 hy1 hU h1 h2 q1 q2 hE hk j1 kY kE kB kP hxs hps
    gi_wp2_with fail
    refine wpIn_mono (Q := fun e a' w' => e = .normal ∧ ∃ ok : Bool, a' = { tmps := #[.func (.yield l) #[] #[], .pointer (some ⟨b, 0, none⟩), .pointer (some ⟨W.heap.size, 0, none⟩), .pointer (some ⟨W.heap.size + 1, 0, none⟩), .string x, .string p,
      .func (.func 61) #[] #[.pointer (some ⟨W.heap.size + 2, 0, none⟩)], .string x, .func (.yield l) #[] #[], .string p, .int .i64 (E : Nat), .int .i64 ((E : Nat) - 1), .int .i64 (k : Nat), .string (p.extract 0 k), .bool ok, .bool (!ok), undef, undef, undef, undef, undef], defers := [] } ∧
      Lies (Its [b] W.heap.size X) WW w' ∧ ((ok = true ∧ J X (us ++ [p.extract 0 k]) w') ∨ (ok = false ∧ Jx X (us ++ [p.extract 0 k]) w'))) ?reg ?cont
    case reg =>
      gi_region_with_o (refine (roundIn_wide HR.out).mono ?_; rintro e W' ⟨ok, rfl, hk, hj⟩)
      all_goals exact ⟨rfl, ok, rfl, hk, hj⟩
    case cont =>
      rintro e a' w' ⟨rfl, ok, rfl, hk, hj⟩
      have v3 := (hk.2 W.heap.size (.inr ⟨Nat.le_refl _, by omega⟩)).trans h3
      have v4 := (hk.2 (W.heap.size + 1) (.inr ⟨by omega, by omega⟩)).trans h4
      have v5 := (hk.2 b (.inl (by simp))).trans h5
      clear c3 c4 c5 HR hy
      have c4 : w'.cell? ⟨W.heap.size + 1, 0, none⟩ = some (.int .i64 (E : Nat)) := cell_of_row _ _ _ _ _ _ v4
      have z4 : w'.frozen? ⟨W.heap.size + 1, 0, none⟩ = false := frozen_of_row _ _ _ _ _ v4
      have sub3 : Hid (∀ r, Its [] w1.heap.size X r → Its [b] W.heap.size X r) := fun r h => sub X r (by omega) h
      have HZ := hide hz1
      clear hz1
      cases ok with
      | true =>
        replace hj := hj.elim (fun h => h.2) (fun h => by cases h.1)
        gi_wp2_with fail
        have hz1 := HZ.out
        refine ⟨(hk.sub sub3.out).trans (.grown (grownBy_setCell _ _ _) (fun r hr => ?_) (fun r e hr => ?_)), ⟨us ++ [p.extract 0 k], by rw [HU.out]; simp, HJ.out X (by omega) _ _ _ _ hj (grownBy_setCell _ _ _) (fun r e => by cases e; exact .inr ⟨by simp, by simp; omega⟩)⟩,
          (heap_setCell_other _ _ _ _ (by simp)).trans v3, ?_, (heap_setCell_other _ _ _ _ (by simp; omega)).trans v5⟩
        · have := hk.1
          have := HZ.out
          rcases hr with h | h
          · simp at h
          · omega
        · cases e
          have := HZ.out
          rcases hr with h | h
          · simp at h
          · simp at h; omega
        · rw [List.map_append, endL_append, ← HE.out, show endL (List.map toL [x]) = x.size + 1 by simp [endL, toL]]
          exact heap_setCell_same _ _ _ _ _ _ v4
      | false =>
        replace hj := hj.elim (fun h => by cases h.1) (fun h => h.2)
        gi_wp2_with fail
        exact ⟨hk.sub sub3.out, rfl, us ++ [p.extract 0 k], by rw [HU.out]; exact List.take_prefix _ _, hj⟩
  case done =>
    rintro X D xs WW hX hD hDX hS ⟨⟨us, h1, h2⟩, h3, h4, h5⟩ hK
    have hj := hJ X (by omega) _ _ _ _ h2 (grownBy_putObj' _ D (.deferred none)) (fun r e => by cases e; exact .inr ⟨by omega, hDX⟩)
    have hU : us.map toL = T := by
      rw [h1, List.take_of_length_le]
      rw [HT.out, upsL_len, ← hS]; simp
    have HU := hide hU
    clear hJ hJx hY h1 h2 hU hS
    gi_wp2_with fail
    refine ⟨by simp, .inl ⟨_, _, rfl, run_takeDeferred hK, ?_⟩⟩
    exact ⟨_, results_none rfl _ _ _, ⟨_, rfl⟩, X, by omega, .inl ⟨us, HU.out, hj⟩⟩
  case stop =>
    rintro X D c pre WW hX hD hDX hS ⟨rfl, us, h1, h2⟩ hK
    have hj := hJx X (by omega) _ _ _ _ h2 (grownBy_putObj' _ D (.deferred none)) (fun r e => by cases e; exact .inr ⟨by omega, hDX⟩)
    have HU := hide h1
    clear hJ hJx hY h1 h2
    gi_wp2_with fail
    refine ⟨by simp, .inl ⟨_, _, rfl, run_takeDeferred hK, ?_⟩⟩
    exact ⟨_, results_none rfl _ _ _, ⟨_, rfl⟩, X, by omega, .inr ⟨us, HU.out, hj⟩⟩
end Go.Proofs.YthlalmehcpionaaDoor
