/-
  Texts that belong together: PathNames, PathGlue, PathUpsPub.
-/
import Derived.Test.YthlalmehcpionaaDoorPathRight
/-
  paths.Names: the iterator's contract, over strings.SplitSeq's.
-/
namespace Go.Proofs.YthlalmehcpionaaDoor
open Go.RowKit Go.Shelf
set_option maxRecDepth 100000

theorem roundIn_wide {n m k : Nat} {P : Program} {l : Nat} {f : FuncId} {tmps : Array Value} {assign body : Code} {w : World} {R : Ending → World → Prop}
    (h : RoundIn Fence.wide n P l f tmps assign body w R) : RoundIn (Fence.wide.inRound k) m P l f tmps assign body w R := ⟨trivial, fun c cs _ => h.2 c cs (room_wide _)⟩
theorem roundIn_any {n m : Nat} {P : Program} {l : Nat} {f : FuncId} {tmps : Array Value} {assign body : Code} {w : World} {R : Ending → World → Prop}
    (h : RoundIn Fence.wide n P l f tmps assign body w R) : RoundIn Fence.wide m P l f tmps assign body w R := ⟨trivial, fun c cs _ => h.2 c cs (room_wide _)⟩

theorem seqT_any {α : Type} {n m : Nat} {P : Program} {g : Nat} {lb : Array Value} {encs : α → Array Value} {L : List Nat} {S Sp : List α → Prop} {w : World}
    (h : SeqT Fence.wide n P g lb encs L S Sp w) : SeqT Fence.wide m P g lb encs L S Sp w := by
  intro l J Jx W hW hJ hJx hY h0
  refine callsIn_wide.2 (callsIn_wide.1 (h l J Jx W hW hJ hJx ?_ h0))
  intro X pre x W1 hX hX1 hj hl
  obtain ⟨fn, tmps, assign, body, hy, hR⟩ := hY X pre x W1 hX hX1 hj hl
  exact ⟨fn, tmps, assign, body, hy, roundIn_any hR⟩

/-- A path's names. -/
def namesL (p : List UInt8) : List (List UInt8) := if p.isEmpty || !rightL p then [] else splitL p

/-- What SplitSeq leaves: its three blocks. -/
theorem split_made (s : ByteArray) (w : World) (Q : Ending → World → Prop)
    (h : ∀ w1 : World, w1.heap.size = w.heap.size + 3 → Below w.heap.size w w1 → w1.heap[w.heap.size]? = some (.cells #[.string s] 9 (0, 0)) → w1.heap[w.heap.size + 1]? = some (.cells #[.string ⟨#[47]⟩] 9 (0, 0)) →
      w1.heap[w.heap.size + 2]? = some (.cells #[.int .i64 0] 3 (0, 0)) →
      Q (.returned (.func (.func 81) #[] #[.pointer (some ⟨w.heap.size + 1, 0, none⟩), .pointer (some ⟨w.heap.size, 0, none⟩), .pointer (some ⟨w.heap.size + 2, 0, none⟩)])) w1) :
    Calls Tryd.prog 57 #[.string s, .string ⟨#[47]⟩] w Q := by
  refine (splitSeq_any s w).mono ?_
  rintro e w1 ⟨rfl, hw1⟩
  refine h w1 (by rw [hw1]; simp) (by rw [hw1]; exact (((Below.refl _ w).alloc (Nat.le_refl _) _).alloc (by simp) _).alloc (by simp; omega) _) ?_ ?_ ?_
  · rw [hw1]
    rw [Below.heap_alloc _ _ _ (by simp <;> omega), Below.heap_alloc _ _ _ (by simp <;> omega)]
    exact World.alloc_heap_new _ _
  · rw [hw1]
    rw [Below.heap_alloc _ _ _ (by simp <;> omega)]
    have h := World.alloc_heap_new (w.alloc (.cells #[.string s] 9)) (Obj.cells #[.string ⟨#[47]⟩] 9)
    simp only [World.size_alloc] at h
    exact h
  · rw [hw1]
    have h := World.alloc_heap_new ((w.alloc (.cells #[.string s] 9)).alloc (.cells #[.string ⟨#[47]⟩] 9)) (Obj.cells #[.int .i64 0] 3)
    simp only [World.size_alloc] at h
    exact h

attribute [local go_sem] Oper.semAt_some
set_option maxRecDepth 100000 in
set_option maxHeartbeats 2000000 in
theorem names_seq (n : Nat) (b : Nat) (p : ByteArray) (w : World) (hp : (p.size : Int) ≤ 9223372036854775800) (hb : b < w.heap.size) (c : w.heap[b]? = some (.cells #[.string p] 9 (0, 0))) :
    SeqT Fence.wide n Tryd.prog 61 #[.pointer (some ⟨b, 0, none⟩)] (fun x : ByteArray => #[.string x]) []
      (fun xs => xs.map toL = namesL (toL p)) (fun pre => pre.map toL <+: namesL (toL p)) w := by
  refine seqT_any (n := 5) ?_
  obtain ⟨T, hT⟩ : ∃ T, T = namesL (toL p) := ⟨_, rfl⟩
  rw [← hT]
  have HT := hide hT
  clear hT
  intro l J Jx W hW hJ hJx hY h0
  have k1 : W.heap[b]? = some (.cells #[.string p] 9 (0, 0)) := (hW.block _ hb).trans c
  have hbW : b < W.heap.size := Nat.lt_of_lt_of_le hb hW.size
  clear c hW hb
  have d1 : W.cell? ⟨b, 0, none⟩ = some (.string p) := cell_of_row _ _ _ _ _ _ k1
  have dA : ∀ o : Obj, (W.alloc o).cell? ⟨b, 0, none⟩ = some (.string p) := fun o => cell_of_row _ _ _ _ _ _ ((Below.heap_alloc _ _ _ hbW).trans k1)
  refine callsIn_of_wp_marks Tryd.func61 rfl trivial ?_ rfl
  simp only [Tryd.ntmps61, List.size_toArray, List.length_cons, List.length_nil, Nat.reduceAdd, Nat.reduceSub, Array.replicate_succ, Array.replicate_zero, List.push_toArray, List.append_toArray, List.nil_append, List.cons_append]
  cases hne : p.toList.isEmpty with
  | true =>
    have hN : T = [] := by rw [HT.out]; unfold namesL toL; rw [← Lib.toList_data, hne]; rfl
    have hE : (∃ X, W.heap.size ≤ X ∧ ((∃ xs : List ByteArray, xs.map toL = T ∧ J X xs (W.alloc (.cells #[.func (.yield l) #[] #[]] 34 (0, 0)))) ∨ (∃ pre : List ByteArray, pre.map toL <+: T ∧ Jx X pre (W.alloc (.cells #[.func (.yield l) #[] #[]] 34 (0, 0)))))) :=
      ⟨W.heap.size, Nat.le_refl _, .inl ⟨[], by rw [hN]; rfl, hJ _ (Nat.le_refl _) _ _ _ none (h0 _ (Nat.le_refl _)) (World.grownBy_alloc _ _ none) (fun r e => by cases e)⟩⟩
    have HE := hide hE
    clear hE hN hJ hJx hY h0
    gi_wp2_with fail
    refine ⟨trivial, ?_⟩
    gi_wp2_with fail
    refine ⟨_, results_none rfl _ _ _, ⟨_, rfl⟩, HE.out⟩
  | false =>
    gi_wp2_with fail
    refine ⟨trivial, (callsIn_wide.2 (right_any p _ hp)).mono ?_⟩
    rintro e w1 ⟨rfl, hB1⟩
    have k2 : w1.heap[b]? = some (.cells #[.string p] 9 (0, 0)) := (hB1.block _ (by simp; omega)).trans ((Below.heap_alloc _ _ _ hbW).trans k1)
    have kY : w1.heap[W.heap.size]? = some (.cells #[.func (.yield l) #[] #[]] 34 (0, 0)) := (hB1.block _ (by simp)).trans (World.alloc_heap_new _ _)
    have d2 : w1.cell? ⟨b, 0, none⟩ = some (.string p) := cell_of_row _ _ _ _ _ _ k2
    cases hr : rightL p.data.toList with
    | false =>
      have hN : T = [] := by rw [HT.out]; unfold namesL; rw [show rightL (toL p) = false from hr]; simp
      have hE : (∃ X, W.heap.size ≤ X ∧ ((∃ xs : List ByteArray, xs.map toL = T ∧ J X xs w1) ∨ (∃ pre : List ByteArray, pre.map toL <+: T ∧ Jx X pre w1))) :=
        ⟨W.heap.size, Nat.le_refl _, .inl ⟨[], by rw [hN]; rfl, hJ _ (Nat.le_refl _) _ _ _ none (hJ _ (Nat.le_refl _) _ _ _ none (h0 _ (Nat.le_refl _)) (World.grownBy_alloc _ _ none) (fun r e => by cases e)) (grownBy_below hB1) (fun r e => by cases e)⟩⟩
      have HE := hide hE
      clear hE hN hJ hJx hY h0
      gi_wp2_with fail
      refine ⟨_, results_none rfl _ _ _, ⟨_, rfl⟩, HE.out⟩
    | true =>
      have hN : T = splitL (toL p) := by rw [HT.out]; unfold namesL; rw [show rightL (toL p) = true from hr, show (toL p).isEmpty = false by unfold toL; rw [← Lib.toList_data]; exact hne]; rfl
      have HN := hide hN
      have j1 : ∀ X, W.heap.size ≤ X → J X [] w1 := fun X hX => hJ _ hX _ _ _ none (hJ _ hX _ _ _ none (h0 _ hX) (World.grownBy_alloc _ _ none) (fun r e => by cases e)) (grownBy_below hB1) (fun r e => by cases e)
      have hz1 : W.heap.size + 1 ≤ w1.heap.size := by have := hB1.size; simp at this; omega
      clear hN h0 hB1 k1 d1 dA
      gi_wp2_with fail
      refine ⟨trivial, (callsIn_wide.2 (split_made p _ _ ?_)).mono (fun e w' h => h)⟩
      intro w2 hz2 hB2 r2 r3 r4
      have kY2 := (hB2.block _ (by omega)).trans kY
      have j2 : ∀ X, W.heap.size ≤ X → J X [] w2 := fun X hX => hJ _ hX _ _ _ none (j1 X hX) (grownBy_below hB2) (fun r e => by cases e)
      clear hB2 kY j1 k2 d2
      gi_wp2_with fail
      have sub : ∀ X r, w2.heap.size ≤ X → Its [w1.heap.size, w1.heap.size + 1, w1.heap.size + 2] w2.heap.size X r → Its [] W.heap.size X r := fun X r hX h => by
        rcases h with h | h
        · simp at h; exact .inr ⟨by omega, by omega⟩
        · exact .inr ⟨by omega, h.2⟩
      refine wpIn_rangeT (α := ByteArray) rfl (by omega) (gf := 81) (lb := #[.pointer (some ⟨w1.heap.size + 1, 0, none⟩), .pointer (some ⟨w1.heap.size, 0, none⟩), .pointer (some ⟨w1.heap.size + 2, 0, none⟩)]) rfl trivial
        (enters_of Tryd.func81 (by kernel_rfl) rfl) (L := [w1.heap.size, w1.heap.size + 1, w1.heap.size + 2]) (by intro k hk; simp at hk; omega)
        (split_seq 4 w1.heap.size (w1.heap.size + 1) (w1.heap.size + 2) p w2 hp (by omega) (by omega) (by omega) (by omega) (by omega) r2 r3 r4) (fun _ => rfl)
        (fun X pre WW => J X pre WW ∧ WW.heap[W.heap.size]? = some (.cells #[.func (.yield l) #[] #[]] 34 (0, 0)))
        (fun X c pre WW => c = .ret ∧ Jx X pre WW)
        ?hI ?hIx (fun X hX => ⟨j2 X (by omega), kY2⟩)
        (fun x => { tmps := #[.func (.yield l) #[] #[], .pointer (some ⟨b, 0, none⟩), .pointer (some ⟨W.heap.size, 0, none⟩), .string x, .string p, .bool false, .bool false, .string p, .bool true, .bool false, .bool false, .string p,
          .func (.func 81) #[] #[.pointer (some ⟨w1.heap.size + 1, 0, none⟩), .pointer (some ⟨w1.heap.size, 0, none⟩), .pointer (some ⟨w1.heap.size + 2, 0, none⟩)], .string x, undef, undef, undef, undef], defers := [] }) ?assign ?body ?done ?stop
      case hI =>
        rintro X hX pre A B row ⟨h1, h2⟩ hg hr
        refine ⟨hJ X (by omega) _ _ _ _ h1 hg (fun r e => sub X r (by omega) (hr r e)), (hg.block _ (Array.getElem?_eq_some_iff.1 h2).1 (fun e => ?_)).trans h2⟩
        rcases hr _ e.symm with h | h
        · simp at h; omega
        · omega
      case hIx =>
        rintro X c hX pre A B row ⟨h1, h2⟩ hg hr
        exact ⟨h1, hJx X (by omega) _ _ _ _ h2 hg (fun r e => sub X r (by omega) (hr r e))⟩
      case assign =>
        intro ll x WW K hK
        gi_wp2
        exact hK
      case body =>
        rintro X ll pre x WW hX hXW ⟨h1, h2⟩ hlen
        have f2 : WW.cell? ⟨W.heap.size, 0, none⟩ = some (.func (.yield l) #[] #[]) := cell_of_row _ _ _ _ _ _ h2
        obtain ⟨fn, tmps, assign, body, hy, hR⟩ := hY X pre x WW (by omega) hXW h1 (show _ <+: _ by rw [HN.out]; exact hlen)
        have HR := hide hR
        clear hR hY
        gi_wp2_with fail
        refine (roundIn_wide HR.out).mono ?_
        rintro e W' (⟨rfl, hJ', hk⟩ | ⟨rfl, hJ', hk⟩)
        · gi_wp2_with fail
          exact ⟨hk.sub (fun r => sub X r (by omega)), hJ', (hk.2 _ (.inr ⟨Nat.le_refl _, by omega⟩)).trans h2⟩
        · gi_wp2_with fail
          exact ⟨hk.sub (fun r => sub X r (by omega)), rfl, hJ'⟩
      case done =>
        rintro X D xs WW hX hD hDX hS ⟨h1, h2⟩ hK
        have hj := hJ X (by omega) _ _ _ _ h1 (grownBy_putObj' _ D (.deferred none)) (fun r e => by cases e; exact .inr ⟨by omega, hDX⟩)
        clear hJ hJx hY h1
        gi_wp2_with fail
        refine ⟨by simp, .inl ⟨_, _, rfl, run_takeDeferred hK, ?_⟩⟩
        exact ⟨_, results_none rfl _ _ _, ⟨_, rfl⟩, X, by omega, .inl ⟨xs, by rw [HN.out]; exact hS, hj⟩⟩
      case stop =>
        rintro X D c pre WW hX hD hDX hS ⟨rfl, h2⟩ hK
        have hj := hJx X (by omega) _ _ _ _ h2 (grownBy_putObj' _ D (.deferred none)) (fun r e => by cases e; exact .inr ⟨by omega, hDX⟩)
        clear hJ hJx hY h2
        gi_wp2_with fail
        refine ⟨by simp, .inl ⟨_, _, rfl, run_takeDeferred hK, ?_⟩⟩
        exact ⟨_, results_none rfl _ _ _, ⟨_, rfl⟩, X, by omega, .inr ⟨pre, by rw [HN.out]; exact hS, hj⟩⟩
end Go.Proofs.YthlalmehcpionaaDoor
/-
  What stands between slashes, as a list: putting together again, prefixes, the order name by name.
-/
namespace Go.Proofs.YthlalmehcpionaaDoor
open Go.RowKit
set_option maxRecDepth 100000

/-- The names between slashes; none of the empty text. -/
def cutL (p : List UInt8) : List (List UInt8) := if p.isEmpty then [] else splitL p
/-- Names with slashes between. -/
def glueL : List (List UInt8) → List UInt8
  | [] => []
  | [x] => x
  | x :: y :: r => x ++ 47 :: glueL (y :: r)

theorem splitL_snoc : ∀ l : List UInt8, ∃ a x, splitL l = a ++ [x] ∧ splitL (l ++ [47]) = a ++ [x] ++ [[]] ∧ ∀ c : UInt8, (c == 47) = false → splitL (l ++ [c]) = a ++ [x ++ [c]]
  | [] => ⟨[], [], rfl, rfl, fun c h => by simp [splitL, h]⟩
  | d :: r => by
    obtain ⟨a, x, h0, h1, h2⟩ := splitL_snoc r
    by_cases hd : (d == 47) = true
    · refine ⟨[] :: a, x, by simp [splitL, hd, h0], by simp [splitL, hd, h1], fun c hc => by simp [splitL, hd, h2 c hc]⟩
    · have hd : (d == 47) = false := by simpa using hd
      cases a with
      | nil => exact ⟨[], d :: x, by simp [splitL, hd, h0], by simp [splitL, hd, h1], fun c hc => by simp [splitL, hd, h2 c hc]⟩
      | cons b t => exact ⟨(d :: b) :: t, x, by simp [splitL, hd, h0], by simp [splitL, hd, h1], fun c hc => by simp [splitL, hd, h2 c hc]⟩

theorem glue_cons (x : List UInt8) (r : List (List UInt8)) (h : r ≠ []) : glueL (x :: r) = x ++ 47 :: glueL r := by
  cases r with
  | nil => exact absurd rfl h
  | cons => rfl
theorem glue_split : ∀ l : List UInt8, glueL (splitL l) = l
  | [] => rfl
  | c :: r => by
    have ih := glue_split r
    by_cases hc : (c == 47) = true
    · have e : c = 47 := by simpa using hc
      unfold splitL
      rw [if_pos hc, glue_cons _ _ (splitL_ne r), ih, e]; rfl
    · unfold splitL
      rw [if_neg hc]
      cases hs : splitL r with
      | nil => exact absurd hs (splitL_ne r)
      | cons h t =>
        rw [hs] at ih
        cases t with
        | nil => simp [glueL] at ih ⊢; exact ih
        | cons y z => simp only [glueL] at ih ⊢; simp [ih]
theorem glue_cut (l : List UInt8) : glueL (cutL l) = l := by
  unfold cutL
  split
  · rename_i h; rw [List.isEmpty_iff.1 h]; rfl
  · exact glue_split l
theorem glue_append : ∀ (a r : List (List UInt8)), a ≠ [] → r ≠ [] → glueL (a ++ r) = glueL a ++ 47 :: glueL r
  | [], _, h, _ => absurd rfl h
  | [x], r, _, h => glue_cons x r h
  | x :: y :: t, r, _, h => by
    rw [List.cons_append, glue_cons _ _ (by simp), glue_append (y :: t) r (by simp) h, glue_cons x (y :: t) (by simp)]
    simp
theorem split_append : ∀ (t y : List UInt8), splitL (t ++ 47 :: y) = splitL t ++ splitL y
  | [], y => by simp [splitL]
  | c :: r, y => by
    have ih := split_append r y
    by_cases hc : (c == 47) = true
    · simp [splitL, hc, ih]
    · have hc : (c == 47) = false := by simpa using hc
      simp only [List.cons_append, splitL, hc, ih, Bool.false_eq_true, if_false]
      cases hs : splitL r with
      | nil => exact absurd hs (splitL_ne r)
      | cons h t => simp
theorem cut_ne (p : List UInt8) (h : p ≠ []) : cutL p = splitL p := by unfold cutL; rw [if_neg (by simpa using h)]
theorem cut_nil : cutL [] = [] := rfl
theorem right_cut (p : List UInt8) : rightL p = ((cutL p).all nameL && decide ((cutL p).length ≤ 16)) := by
  unfold rightL cutL
  split
  · rename_i h; rw [h]; rfl
  · rename_i h; simp only [Bool.not_eq_true] at h; rw [h, Bool.false_or]
theorem names_cut (p : List UInt8) : namesL p = if rightL p then cutL p else [] := by
  unfold namesL cutL
  cases p.isEmpty <;> cases rightL p <;> rfl
theorem letters_noslash (hl : letter 47 = false) : ∀ x : List UInt8, x.all (fun c => letter c.toNat) = true → splitL x = [x]
  | [], _ => rfl
  | c :: r, h => by
    rw [List.all_cons, Bool.and_eq_true] at h
    unfold splitL
    rw [if_neg, letters_noslash hl r h.2]
    intro e
    have e : c = 47 := by simpa using e
    subst e
    have := h.1
    rw [show ((47 : UInt8).toNat : Int) = 47 from rfl, hl] at this
    cases this
/-- A name has no slash, and is not empty. -/
theorem name_noslash (hl : letter 47 = false) (x : List UInt8) (h : nameL x = true) : x ≠ [] ∧ splitL x = [x] := by
  unfold nameL at h
  simp only [Bool.and_eq_true] at h
  refine ⟨?_, letters_noslash hl x h.2⟩
  rintro rfl; simp at h
theorem split_glue (hl : letter 47 = false) : ∀ l : List (List UInt8), l.all nameL = true → l ≠ [] → splitL (glueL l) = l
  | [], _, h => absurd rfl h
  | [x], h, _ => by
    simp at h
    exact (name_noslash hl x h).2
  | x :: y :: r, h, _ => by
    rw [List.all_cons, Bool.and_eq_true] at h
    rw [glue_cons _ _ (by simp), split_append, (name_noslash hl x h.1).2, split_glue hl (y :: r) h.2 (by simp)]; rfl
theorem glue_ne (hl : letter 47 = false) (l : List (List UInt8)) (h : l.all nameL = true) (hne : l ≠ []) : glueL l ≠ [] := by
  cases l with
  | nil => exact absurd rfl hne
  | cons x r =>
    rw [List.all_cons, Bool.and_eq_true] at h
    have := (name_noslash hl x h.1).1
    cases r with
    | nil => exact this
    | cons y z => rw [glue_cons _ _ (by simp)]; simp
theorem cut_glue (hl : letter 47 = false) (l : List (List UInt8)) (h : l.all nameL = true) : cutL (glueL l) = l := by
  by_cases hne : l = []
  · subst hne; rfl
  · rw [cut_ne _ (glue_ne hl l h hne), split_glue hl l h hne]

theorem split_slash (l : List UInt8) : splitL (47 :: l) = [] :: splitL l := rfl
theorem split_other {a : UInt8} (ha : a ≠ 47) {l h : List UInt8} {t : List (List UInt8)} (hs : splitL l = h :: t) : splitL (a :: l) = (a :: h) :: t := by
  have ha' : (a == 47) = false := by simpa using ha
  simp only [splitL, ha', hs, if_false, Bool.false_eq_true]
theorem split_some (l : List UInt8) : ∃ h t, splitL l = h :: t := by
  cases hs : splitL l with
  | nil => exact absurd hs (splitL_ne l)
  | cons h t => exact ⟨h, t, rfl⟩
theorem letter_slash : letter 47 = false := by rfl
end Go.Proofs.YthlalmehcpionaaDoor
/-
  paths.Names and paths.Depth; paths.Ups: the iterator's contract, over paths.Names's.
-/
namespace Go.Proofs.YthlalmehcpionaaDoor
open Go.RowKit Go.Shelf
set_option maxRecDepth 100000

set_option maxHeartbeats 400000 in
theorem names_any (p : ByteArray) (w : World) :
    Calls Tryd.prog 49 #[.string p] w fun e w' => e = .returned (.func (.func 61) #[] #[.pointer (some ⟨w.heap.size, 0, none⟩)]) ∧ w' = w.alloc (.cells #[.string p] 9) := by
  go_enter Tryd.func49, Tryd.ntmps49
  go_wp2
  go_ret
  exact ⟨rfl, rfl⟩

set_option maxHeartbeats 400000 in
theorem ups_any (p : ByteArray) (w : World) :
    Calls Tryd.prog 33 #[.string p] w fun e w' => e = .returned (.func (.func 48) #[] #[.pointer (some ⟨w.heap.size, 0, none⟩)]) ∧ w' = w.alloc (.cells #[.string p] 9) := by
  go_enter Tryd.func33, Tryd.ntmps33
  go_wp2
  go_ret
  exact ⟨rfl, rfl⟩

theorem namesL_len (p : List UInt8) : (namesL p).length ≤ 16 := by
  unfold namesL
  split
  · simp
  · rename_i h
    simp only [Bool.or_eq_true, Bool.not_eq_true', not_or, Bool.not_eq_true, Bool.not_eq_false] at h
    have h2 := h.2
    unfold rightL at h2
    rw [h.1, Bool.false_or, Bool.and_eq_true] at h2
    exact of_decide_eq_true h2.2

end Go.Proofs.YthlalmehcpionaaDoor
