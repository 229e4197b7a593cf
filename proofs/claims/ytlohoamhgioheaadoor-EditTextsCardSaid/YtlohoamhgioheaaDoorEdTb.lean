/-
  Texts that belong together: Lines, EdParse.
-/
import Derived.Test.YtlohoamhgioheaaDoorSuf
import Derived.Test.YtlohoamhgioheaaDoorRange
import Derived.Test.YtlohoamhgioheaaDoorPathSplit
import Derived.Test.YtlohoamhgioheaaDoorPathRight
import Derived.Deep.RegionLaw
import Derived.Deep.RegionHeld
import Derived.Test.YtlohoamhgioheaaDoorEdTa
import Derived.OwnWalkIn
import Derived.RangeFuncBox
/-
  A text's lines: strings.Lines tells them.
-/
namespace Go.Proofs.YtlohoamhgioheaaDoor
open Go.RowKit
set_option maxRecDepth 100000
attribute [local go_sem] Oper.semAt_some

/-- A text's lines, each with its line feed; the last one may lack it. -/
def linesL : List UInt8 → List (List UInt8)
  | [] => []
  | c :: r => if c == 10 then [10] :: linesL r else match linesL r with
    | [] => [[c]]
    | h :: t => (c :: h) :: t
theorem lines_nil : linesL [] = [] := rfl
theorem lines_none : ∀ l : List UInt8, Lib.indexByte l 10 = -1 → l ≠ [] → linesL l = [l]
  | [], _, h => absurd rfl h
  | c :: r, h, _ => by
    unfold Lib.indexByte at h
    split at h
    · omega
    · rename_i hc
      have hr : Lib.indexByte r 10 = -1 := by
        split at h
        · rename_i h1; simpa using h1
        · have := Lib.indexByte_ge r 10; omega
      unfold linesL
      rw [if_neg hc]
      cases r with
      | nil => rfl
      | cons d s => rw [lines_none (d :: s) hr (by simp)]
theorem lines_some : ∀ (l : List UInt8) (o : Nat), Lib.indexByte l 10 = o → linesL l = l.take (o + 1) :: linesL (l.drop (o + 1)) ∧ o < l.length
  | [], o, h => by unfold Lib.indexByte at h; omega
  | c :: r, o, h => by
    unfold Lib.indexByte at h
    split at h
    · rename_i hc
      obtain rfl : o = 0 := by omega
      have e : c = 10 := by simpa using hc
      unfold linesL
      rw [if_pos hc]
      refine ⟨?_, by simp⟩
      rw [e]
      simp
      cases r <;> simp [linesL]
    · rename_i hc
      split at h
      · omega
      · rename_i h1
        have hge := Lib.indexByte_ge r 10
        obtain ⟨o', ho⟩ : ∃ o' : Nat, Lib.indexByte r 10 = o' := ⟨(Lib.indexByte r 10).toNat, by simp at h1; omega⟩
        obtain rfl : o = o' + 1 := by omega
        obtain ⟨e, hl⟩ := lines_some r o' ho
        constructor
        · rw [linesL.eq_def]
          simp only [hc, if_false, Bool.false_eq_true, e]
          simp
        · simp; omega

theorem strIndexByte_any (s : ByteArray) (c : UInt8) (w : World) :
    Calls Tryd.prog 50 #[.string s, .int .u8 c.toNat] w fun e w' => e = .returned (.int .i64 (Lib.indexByte s.data.toList c)) ∧ w = w' := by
  go_enter Tryd.func50, Tryd.ntmps50
  go_wp2_with fail
  refine (indexByte_any s c _).mono ?_
  rintro e w1 ⟨rfl, rfl⟩
  go_wp2
  go_ret
  exact ⟨rfl, rfl⟩
theorem linesOf_any (p : ByteArray) (w : World) :
    Calls Tryd.prog 35 #[.string p] w fun e w' => e = .returned (.func (.func 49) #[] #[.pointer (some ⟨w.heap.size, 0, none⟩)]) ∧ w' = w.alloc (.cells #[.string p] 9) := by
  go_enter Tryd.func35, Tryd.ntmps35
  go_wp2
  go_ret
  exact ⟨rfl, rfl⟩

set_option maxHeartbeats 4000000 in
theorem lines_seq (n : Nat) (b : Nat) (s : ByteArray) (w : World) (hss : (s.size : Int) ≤ 1000000) (l1 : b < w.heap.size) (c1 : w.heap[b]? = some (.cells #[.string s] 9 (0, 0))) :
    SeqT Fence.wide n Tryd.prog 49 #[.pointer (some ⟨b, 0, none⟩)] (fun x : ByteArray => #[.string x]) [b]
      (fun xs => xs.map toL = linesL (toL s)) (fun pre => pre.map toL <+: linesL (toL s)) w := by
  intro l J Jx W hW hJ hJx hY h0
  obtain ⟨T, hT⟩ : ∃ T, T = linesL (toL s) := ⟨_, rfl⟩
  rw [← hT] at hY ⊢
  have HT := hide hT
  clear hT
  have hJ := hJ W.heap.size (Nat.le_refl _)
  have hY := fun pre x W1 => hY W.heap.size pre x W1 (Nat.le_refl _)
  have h0 := h0 W.heap.size (Nat.le_refl _)
  refine (CallsIn.mono ?_ (fun e W' (h : (∃ v, e = Ending.returned v) ∧ ((∃ xs : List ByteArray, xs.map toL = T ∧ J W.heap.size xs W') ∨ (∃ pre : List ByteArray, pre.map toL <+: T ∧ Jx W.heap.size pre W'))) => ⟨h.1, W.heap.size, Nat.le_refl _, h.2⟩))
  have k1 : W.heap[b]? = some (.cells #[.string s] 9 (0, 0)) := (hW.block _ l1).trans c1
  clear c1 hW l1 hJx
  have d1 : W.cell? ⟨b, 0, none⟩ = some (.string s) := cell_of_row _ _ _ _ _ _ k1
  refine callsIn_of_wp Tryd.func49 rfl trivial ?_ rfl
  simp only [Tryd.ntmps49, List.size_toArray, List.length_cons, List.length_nil, Nat.reduceAdd, Nat.reduceSub, Array.replicate_succ, Array.replicate_zero, List.push_toArray, List.append_toArray, List.nil_append, List.cons_append]
  gi_wp2
  gi_loopw [3] (fun _ wr => ∃ (pre : List ByteArray) (t : ByteArray), wr.heap[b]? = some (.cells #[.string t] 9 (0, 0)) ∧ Hid (pre.map toL ++ linesL (toL t) = T) ∧ t.size ≤ s.size ∧ W.heap.size ≤ wr.heap.size ∧ J W.heap.size pre wr) (fun _ wr => boxLen wr b)
  case atStart => exact ⟨[], s, k1, hide HT.out.symm, Nat.le_refl _, Nat.le_refl _, h0⟩
  case round =>
    obtain ⟨pre, t, e1, HP, hts, hsz, hj⟩ := hrel
    have f1 : wr.cell? ⟨b, 0, none⟩ = some (.string t) := cell_of_row _ _ _ _ _ _ e1
    have z1 : wr.frozen? ⟨b, 0, none⟩ = false := frozen_of_row _ _ _ _ _ e1
    clear d1 k1
    by_cases hp : (0 : Int) < t.size
    · rcases index_cases t.data.toList 10 with hi | ⟨o, hi⟩
      · have hne : toL t ≠ [] := fun h => by
          have h2 := congrArg List.length h
          rw [size_toL, List.length_nil] at h2
          omega
        have hn := lines_none (toL t) hi hne
        have HE := hide (show (pre ++ [t]).map toL = T by rw [← HP.out, hn, List.map_append]; rfl)
        have HI := hide (fun W => strIndexByte_any t 10 W)
        rw [hi] at HI
        have e2 : (wr.setCell ⟨b, 0, none⟩ (.string ⟨#[]⟩)).heap[b]? = some (.cells #[.string ⟨#[]⟩] 9 (0, 0)) := heap_setCell_same _ _ _ _ _ _ e1
        have hj1 : J W.heap.size pre (wr.setCell ⟨b, 0, none⟩ (.string ⟨#[]⟩)) := hJ _ _ _ (some b) hj (grownBy_setCell _ _ _) (fun r e => by cases e; exact .inl (by simp))
        have hs1 : W.heap.size ≤ (wr.setCell ⟨b, 0, none⟩ (.string ⟨#[]⟩)).heap.size := by simpa [World.setCell] using hsz
        obtain ⟨fn, tmps, assign, body, hy, hR⟩ := hY pre t (wr.setCell ⟨b, 0, none⟩ (.string ⟨#[]⟩)) hs1 hj1 (by rw [HE.out]; exact List.prefix_refl _)
        have HR := hide hR
        clear hi hY hR hne hn HP hj1
        gi_wp2_with fail
        refine ⟨trivial, fun h => (by cases h), (callsIn_wide.2 (HI.out _)).mono ?_⟩
        rintro e w' ⟨rfl, rfl⟩
        gi_wp2_with fail
        refine ⟨fun h => (by cases h), HR.out.mono ?_⟩
        rintro e W' (⟨rfl, hJ', hk⟩ | ⟨rfl, hJx', hk⟩)
        · have g1 := (hk.2 b (.inl (by simp))).trans e2
          have hs2 : W.heap.size ≤ W'.heap.size := Nat.le_trans hs1 hk.1
          gi_wp2_with fail
          go_roundw
          case rel => exact ⟨pre ++ [t], ⟨#[]⟩, g1, hide (by rw [HE.out]; exact List.append_nil T), Nat.zero_le _, hs2, hJ'⟩
          case measure => rw [boxLen_eq (cell_of_row _ _ _ _ _ _ g1), boxLen_eq f1]; show 0 < t.size; omega
        · gi_wp2_with fail
          refine bodyPost_ret (results_none rfl _ _ _) rfl ?_
          exact ⟨⟨_, rfl⟩, .inr ⟨pre ++ [t], by rw [HE.out]; exact List.prefix_refl _, hJx'⟩⟩
      · obtain ⟨hn, hol⟩ := lines_some _ o hi
        rw [← Lib.size_eq] at hol
        have HI := hide (fun W => strIndexByte_any t 10 W)
        rw [hi] at HI
        have q1 : toL (t.extract 0 (o + 1)) = t.data.toList.take (o + 1) := by unfold toL; rw [Lib.extract_data]; simp
        have q2 : toL (t.extract (o + 1) t.size) = t.data.toList.drop (o + 1) := by
          unfold toL
          rw [Lib.extract_data, List.take_of_length_le (by simp)]
        have HE := hide (show (pre ++ [t.extract 0 (o + 1)]).map toL ++ linesL (toL (t.extract (o + 1) t.size)) = T by
          rw [← HP.out, List.map_append, q2, show linesL (toL t) = t.data.toList.take (o + 1) :: linesL (t.data.toList.drop (o + 1)) from hn, ← q1]
          simp)
        have hz2 : (t.extract (o + 1) t.size).size < t.size := by simp [ByteArray.size_extract]; omega
        have o1 : IntKind.i64.wrap ((o : Int) + 1) = ((o + 1 : Nat) : Int) := by rw [IntWalk.i64_in _ (by omega)]; rfl
        have o2 : (0 : Int) ≤ ((o + 1 : Nat) : Int) := by omega
        have o3 : ((o + 1 : Nat) : Int) ≤ t.size := by omega
        have o4 : (0 : Int) ≤ o := by omega
        have o5 : (0 : Int) ≤ (o : Int) + 1 := by omega
        have o6 : (o : Int) + 1 ≤ t.size := by omega
        obtain ⟨W1, hW1⟩ : ∃ W1, W1 = (wr.setCell ⟨b, 0, none⟩ (.string (t.extract (o + 1) t.size))).drew := ⟨_, rfl⟩
        have e2 : W1.heap[b]? = some (.cells #[.string (t.extract (o + 1) t.size)] 9 (0, 0)) := by rw [hW1]; exact heap_setCell_same _ _ _ _ _ _ e1
        have hj1 : J W.heap.size pre W1 := by
          rw [hW1]
          exact hJ _ _ _ none (hJ _ _ _ (some b) hj (grownBy_setCell _ _ _) (fun r e => by cases e; exact .inl (by simp))) (grownBy_below (below_drew (Below.refl _ _))) (fun r e => by cases e)
        have hs1 : W.heap.size ≤ W1.heap.size := by rw [hW1]; show _ ≤ (wr.setCell _ _).heap.size; simpa [World.setCell] using hsz
        obtain ⟨fn, tmps, assign, body, hy, hR⟩ := hY pre (t.extract 0 (o + 1)) W1 hs1 hj1 ⟨_, HE.out⟩
        have HR := hide hR
        have HW := hide hW1
        have HZ := hide hz2
        have HTS := hide hts
        clear hi hY hR hn HP hj1 hW1 hol q1 q2 hz2 hts
        gi_wp2_with fail
        refine ⟨trivial, fun h => (by cases h), (callsIn_wide.2 (HI.out _)).mono ?_⟩
        rintro e w' ⟨rfl, rfl⟩
        gi_wp2_with fail
        refine wpIn_wide.2 ?_
        go_region_law (fail)
        all_goals
          rw [← HW.out]
          clear HW
          gi_wp2_with fail
          refine ⟨fun h => (by cases h), HR.out.mono ?_⟩
          rintro e W' (⟨rfl, hJ', hk⟩ | ⟨rfl, hJx', hk⟩)
          · have g1 := (hk.2 b (.inl (by simp))).trans e2
            have hs2 : W.heap.size ≤ W'.heap.size := Nat.le_trans hs1 hk.1
            gi_wp2_with fail
            go_roundw
            case rel => exact ⟨pre ++ [t.extract 0 (o + 1)], t.extract (o + 1) t.size, g1, HE, by have := HZ.out; have := HTS.out; omega, hs2, hJ'⟩
            case measure => rw [boxLen_eq (cell_of_row _ _ _ _ _ _ g1), boxLen_eq f1]; exact HZ.out
          · gi_wp2_with fail
            refine bodyPost_ret (results_none rfl _ _ _) rfl ?_
            exact ⟨⟨_, rfl⟩, .inr ⟨pre ++ [t.extract 0 (o + 1)], ⟨_, HE.out⟩, hJx'⟩⟩
    · have hz : t.size = 0 := by omega
      have HE := hide (show pre.map toL = T by
        rw [← HP.out, show toL t = [] from List.length_eq_zero_iff.1 (by rw [size_toL, hz]), lines_nil, List.append_nil])
      clear hY HP hz
      gi_wp2_with fail
      go_end0
      exact ⟨⟨_, rfl⟩, .inl ⟨pre, HE.out, hj⟩⟩
end Go.Proofs.YtlohoamhgioheaaDoor
/-
  edit.Parse: the edits of a text's lines, or the first line that is none.
-/
namespace Go.Proofs.YtlohoamhgioheaaDoor
open Go.RowKit
set_option maxRecDepth 100000

theorem lines_in : ∀ (n : Nat) (s : List UInt8), s.length ≤ n → (linesL s).length ≤ s.length ∧ ∀ x, x ∈ linesL s → x.length ≤ s.length := by
  intro n
  induction n with
  | zero =>
    intro s hs
    have : s = [] := List.length_eq_zero_iff.1 (by omega)
    subst this
    rw [lines_nil]
    exact ⟨Nat.le_refl _, fun x hx => by cases hx⟩
  | succ n ih =>
    intro s hs
    by_cases hn : s = []
    · subst hn; rw [lines_nil]; exact ⟨Nat.le_refl _, fun x hx => by cases hx⟩
    · rcases index_cases s 10 with h | ⟨o, h⟩
      · rw [lines_none s h hn]
        have := List.length_pos_iff.2 hn
        refine ⟨by simp; omega, fun x hx => ?_⟩
        simp at hx
        subst hx
        exact Nat.le_refl _
      · obtain ⟨e, hl⟩ := lines_some s o h
        obtain ⟨h1, h2⟩ := ih (s.drop (o + 1)) (by rw [List.length_drop]; omega)
        rw [List.length_drop] at h1 h2
        rw [e]
        refine ⟨by simp; omega, fun x hx => ?_⟩
        rcases List.mem_cons.1 hx with rfl | hx
        · rw [List.length_take]; omega
        · have := h2 x hx; omega
/-- Is a line, with its line feed, an edit's? Which one? -/
def okLine (x : List UInt8) : Bool := x.getLast? == some 10 && okR ⟨x.dropLast.toArray⟩
def edOf (x : List UInt8) : Et := readT ⟨x.dropLast.toArray⟩
/-- The number of the first line that is no edit's, or 0. -/
def badAt (k : Nat) : List (List UInt8) → Nat
  | [] => 0
  | x :: t => if okLine x then badAt (k + 1) t else k + 1
theorem bad_no {k : Nat} {x : List UInt8} {t : List (List UInt8)} (h : okLine x = false) : badAt k (x :: t) = k + 1 := by
  unfold badAt; rw [h]; rfl
theorem bad_ok {k : Nat} {x : List UInt8} {t : List (List UInt8)} (h : okLine x = true) : badAt k (x :: t) = badAt (k + 1) t := by
  rw [badAt.eq_def]; simp only [h, if_true]
/-- Edits' cells. -/
def cellsE (l : List Et) : List Value := l.flatMap fun e => [.int .i64 e.k, .string e.f, .string e.t, .int .i64 e.n]
theorem cellsE_snoc (l : List Et) (e : Et) : cellsE (l ++ [e]) = cellsE l ++ [.int .i64 e.k, .string e.f, .string e.t, .int .i64 e.n] := by simp [cellsE]
theorem cellsE_get : ∀ (l : List Et) (k : Nat) (e : Et), l[k]? = some e → (cellsE l)[k * 4]? = some (.int .i64 e.k) ∧ (cellsE l)[k * 4 + 1]? = some (.string e.f) ∧ (cellsE l)[k * 4 + 2]? = some (.string e.t) ∧ (cellsE l)[k * 4 + 3]? = some (.int .i64 e.n)
  | [], k, r, h => by simp at h
  | u :: l, 0, r, h => by
    simp at h
    subst h
    exact ⟨rfl, rfl, rfl, rfl⟩
  | u :: l, k + 1, r, h => by
    obtain ⟨h1, h2, h3, h4⟩ := cellsE_get l k r (by simpa using h)
    have e : cellsE (u :: l) = Value.int .i64 u.k :: Value.string u.f :: Value.string u.t :: Value.int .i64 u.n :: cellsE l := rfl
    rw [e, show (k + 1) * 4 = k * 4 + 1 + 1 + 1 + 1 from by omega]
    exact ⟨by simpa using h1, by simpa using h2, by simpa using h3, by simpa using h4⟩
theorem add_zero_off (g k : Nat) : ((⟨g, 0, none⟩ : Addr).add k) = ⟨g, k, none⟩ := by unfold Addr.add; split <;> simp_all
theorem RdE.own {w : World} {B n c : Nat} {A : Option Addr} {l : List Et} (h : w.ownsRow B 23 4 (.slice A n c) n (cellsE l)) : RdE w w.heap.size A l := by
  intro k r hk
  obtain ⟨q1, q2, q3, q4⟩ := cellsE_get l k r hk
  rcases h.2 with ⟨hv, h0⟩ | ⟨g, cap, cur, hv, _, hg, _⟩
  · have h1 := h.1
    rw [h0] at h1
    have : cellsE l = [] := List.length_eq_zero_iff.1 (by omega)
    rw [this] at q1; simp at q1
  · injection hv with hA
    subst hA
    have hc := fun j u hj => h.cells (g := g) rfl j u hj
    have c1 := hc _ _ q1
    have c2 := hc _ _ q2
    have c3 := hc _ _ q3
    have c4 := hc _ _ q4
    rw [add_zero_off] at c1 c2 c3 c4
    refine ⟨_, rfl, (Array.getElem?_eq_some_iff.1 hg).1, ?_, ?_, ?_, ?_⟩
    · rw [add_zero_off]; exact c1
    · rw [add_zero_off]; exact c2
    · rw [add_zero_off]; exact c3
    · rw [add_zero_off]; exact c4
/-- What Parse answers. -/
def EdParseTo (s : ByteArray) (w : World) (e : Ending) (w' : World) : Prop :=
  Below w.heap.size w w' ∧ ((badAt 0 (linesL (toL s)) ≠ 0 ∧ e = .returned (.tuple #[.slice none 0 0, .int .i64 (badAt 0 (linesL (toL s)) : Nat), .int .i64 3])) ∨
    (badAt 0 (linesL (toL s)) = 0 ∧ ∃ (A : Option Addr) (es : List Et) (c : Nat), e = .returned (.tuple #[.slice A es.length c, .int .i64 0, .int .i64 0]) ∧ es = (linesL (toL s)).map edOf ∧ RdE w' w'.heap.size A es))
theorem info_edit : (Tryd.prog.info? 23).map (fun i => (i.zero, i.size, i.bytes)) = some (some (.agg #[.int .i64 0, .string ⟨#[]⟩, .string ⟨#[]⟩, .int .i64 0]), 4, 48) := by kernel_rfl
theorem five_allocs (w : World) (a b c d e : Obj) : ((((((w.alloc a).alloc b).alloc c).alloc d).alloc e).heap.size = w.heap.size + 5) ∧ Below w.heap.size w (((((w.alloc a).alloc b).alloc c).alloc d).alloc e) ∧
    (((((w.alloc a).alloc b).alloc c).alloc d).alloc e).heap[w.heap.size]? = some a ∧ (((((w.alloc a).alloc b).alloc c).alloc d).alloc e).heap[w.heap.size + 1]? = some b ∧ (((((w.alloc a).alloc b).alloc c).alloc d).alloc e).heap[w.heap.size + 1 + 1]? = some c ∧
    (((((w.alloc a).alloc b).alloc c).alloc d).alloc e).heap[w.heap.size + 1 + 1 + 1]? = some d ∧ (((((w.alloc a).alloc b).alloc c).alloc d).alloc e).heap[w.heap.size + 4]? = some e := by
  refine ⟨by simp, (((((Below.refl _ w).alloc (Nat.le_refl _) _).alloc (by simp) _).alloc (by simp; omega) _).alloc (by simp; omega) _).alloc (by simp; omega) _, ?_, ?_, ?_, ?_, ?_⟩
  · rw [heap_alloc_get, if_neg (by simp <;> omega), heap_alloc_get, if_neg (by simp <;> omega), heap_alloc_get, if_neg (by simp <;> omega), heap_alloc_get, if_neg (by simp), heap_alloc_get, if_pos rfl]
  · rw [heap_alloc_get, if_neg (by simp <;> omega), heap_alloc_get, if_neg (by simp <;> omega), heap_alloc_get, if_neg (by simp), heap_alloc_get, if_pos (by simp)]
  · rw [heap_alloc_get, if_neg (by simp <;> omega), heap_alloc_get, if_neg (by simp), heap_alloc_get, if_pos (by simp)]
  · rw [heap_alloc_get, if_neg (by simp), heap_alloc_get, if_pos (by simp)]
  · rw [heap_alloc_get, if_pos (by simp)]
/-- What Parse has put together. -/
structure EPI (w : World) (X : Nat) (v : Value) (rs : List Et) (W : World) : Prop where
  below : Below w.heap.size w W
  b0 : W.heap[w.heap.size]? = some (.cells #[.slice none 0 0] 25 (0, 0))
  b1 : W.heap[w.heap.size + 1]? = some (.cells #[.int .i64 0] 3 (0, 0))
  b2 : W.heap[w.heap.size + 1 + 1]? = some (.cells #[.int .i64 0] 30 (0, 0))
  b3 : W.heap[w.heap.size + 1 + 1 + 1]? = some (.cells #[v] 25 (0, 0))
  own : W.ownsRow X 23 4 v rs.length (cellsE rs)
theorem EPI.grown {w A B : World} {X : Nat} {v : Value} {rs : List Et} {row : Option Nat} (h : EPI w X v rs A) (hg : A.grownBy B row) (hr : ∀ r, row = some r → w.heap.size + 4 ≤ r ∧ r < X) : EPI w X v rs B := by
  have ne : ∀ k, k < w.heap.size + 4 → ¬ k = row := fun k hk e => by have := (hr k e.symm).1; omega
  have keep : ∀ (k : Nat) (o : Obj), k < w.heap.size + 4 → A.heap[k]? = some o → B.heap[k]? = some o := fun k o hk ho =>
    (hg.block k (Array.getElem?_eq_some_iff.1 ho).1 (fun e => ne k hk e)).trans ho
  refine ⟨h.below.grown hg h.below.size (fun r e => by have := (hr r e).1; omega), keep _ _ (by omega) h.b0, keep _ _ (by omega) h.b1, keep _ _ (by omega) h.b2, keep _ _ (by omega) h.b3, h.own.kept hg ?_⟩
  cases ho : v.ownBlock with
  | none => exact .inl rfl
  | some k =>
    right
    intro e
    have h1 := (h.own.lt k ho).1
    have h2 := (hr k e.symm).2
    omega
theorem EPI.step {w A B : World} {X : Nat} {v : Value} {rs : List Et} (h : EPI w X v rs A) (hb : Below A.heap.size A B) : EPI w X v rs B := h.grown (grownBy_below hb) (fun r e => by cases e)
/-- What Parse leaves when it tells of a line. -/
def EBad (w : World) (a b c : Value) (W : World) : Prop := W.heap[w.heap.size]? = some (.cells #[a] 25 (0, 0)) ∧ W.heap[w.heap.size + 1]? = some (.cells #[b] 3 (0, 0)) ∧ W.heap[w.heap.size + 1 + 1]? = some (.cells #[c] 30 (0, 0)) ∧ Below w.heap.size w W
theorem EPI.bad {w W : World} {X : Nat} {v : Value} {rs : List Et} (h : EPI w X v rs W) (a b c : Value) :
    EBad w a b c (((W.setCell ⟨w.heap.size, 0, none⟩ a).setCell ⟨w.heap.size + 1, 0, none⟩ b).setCell ⟨w.heap.size + 1 + 1, 0, none⟩ c) := by
  have e0 := heap_setCell_same W w.heap.size 0 _ _ a h.b0
  have e1 := heap_setCell_same (W.setCell ⟨w.heap.size, 0, none⟩ a) (w.heap.size + 1) 0 _ _ b ((heap_setCell_other _ _ _ _ (by simp)).trans h.b1)
  have e2 := heap_setCell_same ((W.setCell ⟨w.heap.size, 0, none⟩ a).setCell ⟨w.heap.size + 1, 0, none⟩ b) (w.heap.size + 1 + 1) 0 _ _ c ((heap_setCell_other _ _ _ _ (by simp)).trans ((heap_setCell_other _ _ _ _ (by simp; omega)).trans h.b2))
  exact ⟨(heap_setCell_other _ _ _ _ (by simp; omega)).trans ((heap_setCell_other _ _ _ _ (by simp)).trans e0), (heap_setCell_other _ _ _ _ (by simp)).trans e1, e2,
    ((h.below.setCell (p := ⟨w.heap.size, 0, none⟩) (by simp) _).setCell (p := ⟨w.heap.size + 1, 0, none⟩) (by simp) _).setCell (p := ⟨w.heap.size + 1 + 1, 0, none⟩) (by simp; omega) _⟩
theorem EBad.drew {w W : World} {a b c : Value} (h : EBad w a b c W) : EBad w a b c W.drew := ⟨h.1, h.2.1, h.2.2.1, below_drew h.2.2.2⟩
theorem lies_set {U : Nat → Prop} {A B : World} (h : Lies U A B) (g k : Nat) (v : Value) (hg : ¬ U g) : Lies U A (B.setCell ⟨g, k, none⟩ v) :=
  ⟨by simpa [World.setCell] using h.1, fun i hi => (heap_setCell_other _ _ _ _ (fun e => hg (by rw [← show i = g from e]; exact hi))).trans (h.2 i hi)⟩
theorem lies_drew {U : Nat → Prop} {A B : World} (h : Lies U A B) : Lies U A B.drew := h
theorem cells_new4 (w : World) (o : Obj) (a b c d : Value) (T : TypeId) (j : Nat) (u : Value) (h : [a, b, c, d][j]? = some u) : ((w.alloc o).alloc (.cells #[a, b, c, d] T)).cell? ((⟨w.heap.size + 1, 0, none⟩ : Addr).add j) = some u := by
  rw [add_zero_off]
  have h2 := World.alloc_heap_new (w.alloc o) (Obj.cells #[a, b, c, d] T)
  rw [World.size_alloc] at h2
  exact (cell_of_row _ _ _ _ _ _ h2).trans (by rw [← h]; simp)
theorem EPI.more {w W w' : World} {X : Nat} {v v' : Value} {rs : List Et} {x : Et} (h : EPI w X v rs W) (O : Obj) (hX : w.heap.size + 7 ≤ X) (hWX : X ≤ W.heap.size) (ho : w'.ownsRow X 23 4 v' (rs.length + 1) (cellsE rs ++ [.int .i64 x.k, .string x.f, .string x.t, .int .i64 x.n])) (hg : (W.alloc O).grownBy w' v.ownBlock) :
    w'.heap[w.heap.size + 1 + 1 + 1]? = some (.cells #[v] 25 (0, 0)) ∧ EPI w X v' (rs ++ [x]) (w'.setCell ⟨w.heap.size + 1 + 1 + 1, 0, none⟩ v') ∧
    ∀ (U : Nat → Prop) (W0 : World), (∀ k, U k → k < X ∧ k ≠ w.heap.size + 1 + 1 + 1) → Lies U W0 W → Lies U W0 (w'.setCell ⟨w.heap.size + 1 + 1 + 1, 0, none⟩ v') := by
  have h1 := h.step ((Below.refl _ W).alloc (Nat.le_refl _) O)
  have ne : ∀ k, k < X → ¬ some k = v.ownBlock := fun k hk e => by have := (h1.own.lt k e.symm).1; omega
  have keep : ∀ (k : Nat) (o : Obj), k < X → (W.alloc O).heap[k]? = some o → w'.heap[k]? = some o := fun k o hk hh => (hg.block k (Array.getElem?_eq_some_iff.1 hh).1 (fun e => ne k hk e)).trans hh
  have e3 := keep _ _ (by omega) h1.b3
  refine ⟨e3, ⟨?_, ?_, ?_, ?_, heap_setCell_same _ _ _ _ _ _ e3, ?_⟩, fun U W0 hU hL => ?_⟩
  · exact (h1.below.grown hg h1.below.size (fun r e => by have := (h1.own.lt r e).1; omega)).setCell (p := ⟨w.heap.size + 1 + 1 + 1, 0, none⟩) (by simp <;> omega) _
  · exact (heap_setCell_other _ _ _ _ (by simp; omega)).trans (keep _ _ (by omega) h1.b0)
  · exact (heap_setCell_other _ _ _ _ (by simp <;> omega)).trans (keep _ _ (by omega) h1.b1)
  · exact (heap_setCell_other _ _ _ _ (by simp)).trans (keep _ _ (by omega) h1.b2)
  · rw [List.length_append, cellsE_snoc]
    exact ownsRow_setCell_below ho (by show w.heap.size + 1 + 1 + 1 < X; omega) _
  · refine lies_set ⟨?_, fun k hk => ?_⟩ _ _ _ (fun hk => (hU _ hk).2 rfl)
    · have := hL.1
      have := hg.size
      simp at this
      omega
    · have hk1 := (hU k hk).1
      have e4 : (W.alloc O).heap[k]? = W.heap[k]? := Below.heap_alloc _ _ _ (by omega)
      exact (hg.block k (by simp; omega) (fun e => ne k hk1 e)).trans (e4.trans (hL.2 k hk))

theorem cut_line (x : ByteArray) (h : sufB x 10 = true) : cutE x 10 = ⟨(toL x).dropLast.toArray⟩ := by
  unfold cutE
  rw [if_pos h]
  apply bytes_ext
  rw [toL_ext, List.drop_zero, List.dropLast_eq_take]
  simp [toL]
theorem cut_size (x : ByteArray) : (cutE x 10).size ≤ x.size := by
  unfold cutE
  split
  · simp
  · exact Nat.le_refl _
attribute [local go_sem] Oper.semAt_some
set_option maxHeartbeats 8000000 in
theorem edParse_in (s : ByteArray) (w : World) (hs : (s.size : Int) ≤ 100000) (hTb : Tabs w) (hEr : Errs w) : CallsIn Fence.wide 5 Tryd.prog 17 #[.string s] w (EdParseTo s w) := by
  obtain ⟨i0, hi, hz0, hz1, hz2⟩ := info_parts info_edit
  have HRead := hide (fun x W (hx : (x.size : Int) ≤ 300000) (hb : Below w.heap.size w W) => read_any x W hx (hTb.below hb) (hEr.below hb))
  clear hTb hEr
  obtain ⟨T, hT⟩ : ∃ T, T = linesL (toL s) := ⟨_, rfl⟩
  obtain ⟨N, hNE⟩ : ∃ N, badAt 0 T = N := ⟨_, rfl⟩
  have HBadP := hide (show ∀ e w', Below w.heap.size w w' → N ≠ 0 → e = .returned (.tuple #[.slice none 0 0, .int .i64 (N : Nat), .int .i64 3]) → EdParseTo s w e w' from fun e w' h1 h2 h3 => ⟨h1, .inl (by rw [← hT, hNE]; exact ⟨h2, h3⟩)⟩)
  have HGoodP := hide (show ∀ e w' (A : Option Addr) (es : List Et) (c : Nat), Below w.heap.size w w' → N = 0 → e = .returned (.tuple #[.slice A es.length c, .int .i64 0, .int .i64 0]) → es = T.map edOf → RdE w' w'.heap.size A es → EdParseTo s w e w' from
    fun e w' A es c h1 h2 h3 h4 h5 => ⟨h1, .inr (by rw [← hT, hNE]; exact ⟨h2, A, es, c, h3, h4, h5⟩)⟩)
  have HNE := hide hNE
  have HMem := hide (show T.length ≤ s.size ∧ ∀ x ∈ T, x.length ≤ s.size by rw [hT]; have h := lines_in _ (toL s) (Nat.le_refl _); rw [size_toL] at h; exact h)
  have HT := hide hT
  clear hT hNE
  refine callsIn_of_wp_marks Tryd.func17 rfl trivial ?_ rfl
  simp only [Tryd.ntmps17, List.size_toArray, List.length_cons, List.length_nil, Nat.reduceAdd, Nat.reduceSub, Array.replicate_succ, Array.replicate_zero, List.push_toArray, List.append_toArray, List.nil_append, List.cons_append]
  gi_wp2_with fail
  refine ⟨trivial, (callsIn_wide.2 (linesOf_any s _)).mono ?_⟩
  rintro e w1 ⟨rfl, hw1⟩
  obtain ⟨hsz1, hB1, r0, r1, r2, r3, r4⟩ := five_allocs w (.cells #[.slice none 0 0] 25) (.cells #[.int .i64 0] 3) (.cells #[.int .i64 0] 30) (.cells #[.slice none 0 0] 25) (.cells #[.string s] 9)
  rw [← hw1] at hsz1 hB1 r0 r1 r2 r3 r4
  have e2 : ((((w.alloc (Obj.cells #[Value.slice none 0 0] 25)).alloc (Obj.cells #[Value.int IntKind.i64 0] 3)).alloc (Obj.cells #[Value.int IntKind.i64 0] 30)).alloc (Obj.cells #[Value.slice none 0 0] 25)).heap.size = w.heap.size + 4 := by simp
  rw [e2]
  clear hw1 e2
  have HPI0 := hide (fun X => (⟨hB1, r0, r1, r2, r3, World.ownsRow_nil _ _ _ _⟩ : EPI w X (.slice none 0 0) [] w1))
  clear r0 r1 r2 r3
  gi_wp2_with fail
  refine wpIn_rangeT (α := ByteArray) rfl (by omega) (gf := 49) (lb := #[.pointer (some ⟨w.heap.size + 4, 0, none⟩)]) rfl trivial
    (enters_of Tryd.func49 (by kernel_rfl) rfl) (L := [w.heap.size + 4]) (by intro k hk; simp at hk; omega)
    (lines_seq 4 (w.heap.size + 4) s w1 (by omega) (by omega) r4) (fun _ => rfl)
    (fun X pre W => Hid (∀ rest, pre.map toL ++ rest = T → badAt 0 T = badAt pre.length rest) ∧ ∃ v es, EPI w X v es W ∧ Hid (es = (pre.map toL).map edOf))
    (fun X c pre W => c = .ret ∧ Hid (N ≠ 0) ∧ W.heap[w.heap.size]? = some (.cells #[.slice none 0 0] 25 (0, 0)) ∧ W.heap[w.heap.size + 1]? = some (.cells #[.int .i64 (N : Nat)] 3 (0, 0)) ∧ W.heap[w.heap.size + 1 + 1]? = some (.cells #[.int .i64 3] 30 (0, 0)) ∧ Below w.heap.size w W)
    ?hI ?hIx (fun X hX => ⟨hide (fun rest h => by rw [← h]; rfl), _, [], HPI0.out X, hide rfl⟩)
    (fun x => { tmps := #[.string s, undef, .pointer (some ⟨w.heap.size, 0, none⟩), .pointer (some ⟨w.heap.size + 1, 0, none⟩), .pointer (some ⟨w.heap.size + 1 + 1, 0, none⟩), .pointer (some ⟨w.heap.size + 1 + 1 + 1, 0, none⟩), .string x, undef, undef, undef, undef, .string s,
      .func (.func 49) #[] #[.pointer (some ⟨w.heap.size + 4, 0, none⟩)], .string x, undef, undef, undef, undef, undef, undef, undef, undef, undef, undef, undef, undef, undef, undef, undef, undef, undef, undef, undef, undef, undef, undef, undef, undef], defers := [] }) ?assign ?body ?done ?stop
  case hI =>
    rintro X hX pre A B row ⟨h1, v, es, h3, h4⟩ hg hr
    refine ⟨h1, v, es, h3.grown hg (fun r e => ?_), h4⟩
    rcases hr r e with h | h
    · simp at h; omega
    · omega
  case hIx =>
    rintro X c hX pre A B row ⟨h1, h2, h3, h4, h5, h6⟩ hg hr
    have ne : ∀ k, k < w.heap.size + 4 → ¬ row = some k := fun k hk e => by
      rcases hr k e with h | h
      · simp at h; omega
      · omega
    have keep : ∀ (k : Nat) (o : Obj), k < w.heap.size + 4 → A.heap[k]? = some o → B.heap[k]? = some o := fun k o hk ho => (hg.block k (Array.getElem?_eq_some_iff.1 ho).1 (fun e => ne k hk e.symm)).trans ho
    exact ⟨h1, h2, keep _ _ (by omega) h3, keep _ _ (by omega) h4, keep _ _ (by omega) h5, h6.grown hg h6.size (fun k e => Nat.le_of_not_lt (fun hk => ne k (by omega) e))⟩
  case assign =>
    intro l x W K hK
    gi_wp2
    exact hK
  case body =>
    rintro X ll pre x W hX hXW ⟨hP, v, es, hPI, hEs⟩ hpre
    rw [List.map_append] at hpre
    obtain ⟨rest, hrest⟩ := hpre
    rw [← HT.out] at hrest
    have hx : x.size ≤ s.size := by
      have h := HMem.out.2 (toL x) (by rw [← hrest]; simp)
      rw [size_toL] at h; exact h
    have hpl : pre.length < s.size := by
      have h := HMem.out.1
      rw [← hrest] at h
      simp at h
      omega
    have hPx := hP.out (toL x :: rest) (by rw [← hrest]; simp)
    rw [HNE.out] at hPx
    have hel : es.length = pre.length := by rw [hEs.out]; simp
    have HEL := hide hel
    have HPL := hide hpl
    have hct := cut_size x
    have HCut := hide (cutSuf_any x 10 W (by omega))
    have HRd := hide (fun W2 (hb : Below w.heap.size w W2) => HRead.out (cutE x 10) W2 (by omega) hb)
    have HX := hide hx
    have HPx := hide hPx
    have HRest := hide hrest
    have hxs : w.heap.size + 7 ≤ X := by omega
    have hsz1' := hide hsz1
    have HOk := hide (show okLine (toL x) = (sufB x 10 && okR ⟨(toL x).dropLast.toArray⟩) from rfl)
    have HCL := hide (fun h => cut_line x h)
    clear hrest hPx hP hx hsz1 hX hel hpl hct
    obtain ⟨S, hS⟩ : ∃ S, S = sufB x 10 := ⟨_, rfl⟩
    obtain ⟨C, hC⟩ : ∃ C, C = cutE x 10 := ⟨_, rfl⟩
    rw [← hS] at HCut HOk HCL
    rw [← hC] at HCut HRd HCL
    clear hS hC
    gi_wp2_with fail
    refine ⟨trivial, (CallsIn.inRound ll (callsIn_wide.2 HCut.out)).mono ?_⟩
    rintro e w1b ⟨rfl, rfl⟩
    have HRd2 := hide (HRd.out w1b hPI.below)
    gi_wp2_with fail
    refine ⟨trivial, (CallsIn.inRound ll (callsIn_wide.2 HRd2.out)).mono ?_⟩
    rintro e w2 ⟨rfl, hb2⟩
    obtain ⟨R, hR⟩ : ∃ R, R = readT C := ⟨_, rfl⟩
    rw [← hR]
    have HRc := hide hR
    obtain ⟨k, f, t, n⟩ := R
    have hPI2 := hPI.step hb2
    have hW2 : X ≤ w2.heap.size := Nat.le_trans hXW hb2.size
    obtain ⟨A, c, rfl⟩ := ownsRow_slice hPI2.own
    obtain ⟨W3, hW3⟩ : ∃ W3, W3 = w2.alloc (.cells #[.int .i64 k, .string f, .string t, .int .i64 n] 23) := ⟨_, rfl⟩
    have hPI3 : EPI w X (.slice A es.length c) es W3 := by rw [hW3]; exact hPI2.step ((Below.refl _ _).alloc (Nat.le_refl _) _)
    have hB23 : Below w1b.heap.size w1b W3 := by rw [hW3]; exact hb2.alloc hb2.size _
    have hni : ∀ k, k < w.heap.size + 4 → ¬ Its [w.heap.size + 4] w1.heap.size X k := fun k hk h => by
      have := hsz1'.out
      rcases h with h | h
      · simp at h; omega
      · omega
    have hL3 : Lies (Its [w.heap.size + 4] w1.heap.size X) w1b W3 := ⟨hB23.size, fun k hk => hB23.block k (by
      have := hsz1'.out
      rcases hk with hk | hk
      · simp at hk; omega
      · omega)⟩
    have HFin := hide (show ∀ a b c, Lies (Its [w.heap.size + 4] w1.heap.size X) w1b (((W3.setCell ⟨w.heap.size, 0, none⟩ a).setCell ⟨w.heap.size + 1, 0, none⟩ b).setCell ⟨w.heap.size + 1 + 1, 0, none⟩ c).drew ∧ EBad w a b c (((W3.setCell ⟨w.heap.size, 0, none⟩ a).setCell ⟨w.heap.size + 1, 0, none⟩ b).setCell ⟨w.heap.size + 1 + 1, 0, none⟩ c).drew from
      fun a b c => ⟨lies_drew (lies_set (lies_set (lies_set hL3 _ _ _ (hni _ (by omega))) _ _ _ (hni _ (by omega))) _ _ _ (hni _ (by omega))), (hPI3.bad a b c).drew⟩)
    have c3' : W3.cell? ⟨w.heap.size + 1 + 1 + 1, 0, none⟩ = some (.slice A es.length c) := cell_of_row _ _ _ _ _ _ hPI3.b3
    have s0 : W3.cell? ⟨w.heap.size, 0, none⟩ = some (.slice none 0 0) := cell_of_row _ _ _ _ _ _ hPI3.b0
    have s1 : W3.cell? ⟨w.heap.size + 1, 0, none⟩ = some (.int .i64 0) := cell_of_row _ _ _ _ _ _ hPI3.b1
    have s2 : W3.cell? ⟨w.heap.size + 1 + 1, 0, none⟩ = some (.int .i64 0) := cell_of_row _ _ _ _ _ _ hPI3.b2
    have f0 : W3.frozen? ⟨w.heap.size, 0, none⟩ = false := frozen_of_row _ _ _ _ _ hPI3.b0
    have f1 : W3.frozen? ⟨w.heap.size + 1, 0, none⟩ = false := frozen_of_row _ _ _ _ _ hPI3.b1
    have f2 : W3.frozen? ⟨w.heap.size + 1 + 1, 0, none⟩ = false := frozen_of_row _ _ _ _ _ hPI3.b2
    have f3 : W3.frozen? ⟨w.heap.size + 1 + 1 + 1, 0, none⟩ = false := frozen_of_row _ _ _ _ _ hPI3.b3
    have he3 : W3.heap[w2.heap.size]? = some (.cells #[.int .i64 k, .string f, .string t, .int .i64 n] 23 (0, 0)) := by rw [hW3]; exact World.alloc_heap_new _ _
    have k0 : W3.cell? ⟨w2.heap.size, 0, none⟩ = some (.int .i64 k) := cell_of_row _ _ _ _ _ _ he3
    have k1 : W3.cell? ⟨w2.heap.size, 1, none⟩ = some (.string f) := cell_of_row _ _ _ _ _ _ he3
    have k2 : W3.cell? ⟨w2.heap.size, 2, none⟩ = some (.string t) := cell_of_row _ _ _ _ _ _ he3
    have k3 : W3.cell? ⟨w2.heap.size, 3, none⟩ = some (.int .i64 n) := cell_of_row _ _ _ _ _ _ he3
    have HPI3 := hide hPI3
    have HL3 := hide hL3
    have hmx : Tryd.prog.follows .mixedOrders = true := by kernel_rfl
    have hel2 : (es.length : Int) ≤ 100000 := by have := HEL.out; have := HPL.out; omega
    have hOwn := HPI3.out.own
    have hHM := HPI3.out
    have HL4 := hide HL3.out
    have hW2X : X ≤ W3.heap.size := by rw [hW3]; simp; omega
    have hni2 : ∀ k, Its [w.heap.size + 4] w1.heap.size X k → k < X ∧ k ≠ w.heap.size + 1 + 1 + 1 := fun k hk => by
      have := hsz1'.out
      rcases hk with h | h
      · simp at h; omega
      · omega
    have HMore := hide (fun (v' : Value) (w' : World) (O : Obj) => EPI.more (x := ⟨k, f, t, n⟩) (v' := v') (w' := w') hHM O hxs hW2X)
    have HNI := hide hni2
    simp only [Et.cells]
    rw [hW3] at c3' s0 s1 s2 f0 f1 f2 f3 k0 k1 k2 k3 HFin hOwn HMore HL4
    clear hPI2 hPI3 hPI hL3 hB23 hb2 he3 hR hHM hni2 hni hW3 hW2X
    have n1 : IntKind.i64.wrap ((es.length : Int) + 1) = ((es.length + 1 : Nat) : Int) := by rw [IntWalk.i64_in _ (by omega)]; rfl
    cases S with
    | false =>
      have hno : okLine (toL x) = false := by rw [HOk.out]; rfl
      have hp2 := HPx.out
      rw [bad_no hno] at hp2
      have hN := hide (show N = es.length + 1 by have := HEL.out; omega)
      clear hp2 hno hOwn HMore HL4
      gi_wp2_with fail
      gi_region_with_o (fail)
      all_goals
        gi_wp2_with fail
        obtain ⟨q1, q2⟩ := HFin.out (.slice none 0 0) (.int .i64 ((es.length + 1 : Nat) : Int)) (.int .i64 3)
        refine ⟨q1, rfl, hide (by rw [hN.out]; omega), q2.1, ?_, q2.2.2.1, q2.2.2.2⟩
        rw [hN.out]; exact q2.2.1
    | true =>
      have hC := HCL.out rfl
      cases ho : okR C with
      | false =>
        have hno : okLine (toL x) = false := by rw [HOk.out, ← hC, ho]; rfl
        have hF : readF C = 3 := by unfold readF; rw [ho]; rfl
        have hp2 := HPx.out
        rw [bad_no hno] at hp2
        have hN := hide (show N = es.length + 1 by have := HEL.out; omega)
        rw [hF]
        clear hp2 hno hOwn HMore HL4 hF ho hC
        gi_wp2_with fail
        gi_region_with_o (fail)
        all_goals
          gi_wp2_with fail
          obtain ⟨q1, q2⟩ := HFin.out (.slice none 0 0) (.int .i64 ((es.length + 1 : Nat) : Int)) (.int .i64 3)
          refine ⟨q1, rfl, hide (by rw [hN.out]; omega), q2.1, ?_, q2.2.2.1, q2.2.2.2⟩
          rw [hN.out]; exact q2.2.1
      | true =>
        have hyes : okLine (toL x) = true := by rw [HOk.out, ← hC, ho]; rfl
        have hF : readF C = 0 := by unfold readF; rw [ho]; rfl
        have HYes := hide hyes
        have HEd := hide (show edOf (toL x) = ⟨k, f, t, n⟩ by rw [HRc.out, hC]; rfl)
        rw [hF]
        clear hyes hF ho hC
        gi_wp2_with (gi_at_builtin; refine wpListIn_append_own _ rfl _ _ 25 rfl X 23 i0 _ 4 48 Tryd.underlying25 hi hz0 hz1 hz2 rfl (by decide) _ _ _ rfl (hOwn.alloc _) ⟨w2.heap.size + 1, 0, none⟩ 1 1 [.int .i64 k, .string f, .string t, .int .i64 n] rfl rfl (cells_new4 _ _ _ _ _ _ _) (by simp [Value.oneCell']) (by unfold maxLen; omega) (by omega) (by simp; omega) ?_)
        intro v' w' hO' hg hnil
        obtain ⟨m1, m2, m3⟩ := HMore.out _ _ _ hO' hg
        obtain ⟨g', cap', rfl⟩ := ownsRow_succ hO'
        have y0 : w'.cell? ⟨w.heap.size + 1 + 1 + 1, 0, none⟩ = some (.slice A es.length c) := cell_of_row _ _ _ _ _ _ m1
        have y1 : w'.frozen? ⟨w.heap.size + 1 + 1 + 1, 0, none⟩ = false := frozen_of_row _ _ _ _ _ m1
        have M2 := hide m2
        have M3 := hide (m3 _ _ HNI.out HL4.out)
        clear m1 m2 m3 hO' hg hnil HMore hOwn c3' s0 s1 s2 f0 f1 f2 f3 k0 k1 k2 k3
        gi_wp2_with fail
        have hnl : (pre ++ [x]).length = pre.length + 1 := by simp
        refine ⟨M3.out, hide (fun rest2 h2 => ?_), _, _, M2.out, hide ?_⟩
        · have h3 : rest2 = rest := by
            have h4 := h2.trans HRest.out.symm
            rw [List.map_append] at h4
            exact List.append_cancel_left h4
          have h5 := HPx.out
          rw [bad_ok HYes.out] at h5
          rw [HNE.out, h5, h3, hnl]
        · rw [hEs.out, List.map_append, List.map_append]
          congr 1
          show [(⟨k, f, t, n⟩ : Et)] = [edOf (toL x)]
          rw [HEd.out]
  case done =>
    rintro X D xs W hX hD hDX hS ⟨hP, v, rs, hPI, hRs⟩ hK
    rw [← HT.out] at hS
    have hp2 := hP.out [] (by rw [hS]; simp)
    rw [HNE.out] at hp2
    have HP2 := hide (show N = 0 from hp2)
    have HRs := hide (show rs = T.map edOf by rw [hRs.out, hS])
    obtain ⟨A, c, rfl⟩ := ownsRow_slice hPI.own
    have c3' : W.cell? ⟨w.heap.size + 1 + 1 + 1, 0, none⟩ = some (.slice A rs.length c) := cell_of_row _ _ _ _ _ _ hPI.b3
    have s0 : W.cell? ⟨w.heap.size, 0, none⟩ = some (.slice none 0 0) := cell_of_row _ _ _ _ _ _ hPI.b0
    have s1 : W.cell? ⟨w.heap.size + 1, 0, none⟩ = some (.int .i64 0) := cell_of_row _ _ _ _ _ _ hPI.b1
    have s2 : W.cell? ⟨w.heap.size + 1 + 1, 0, none⟩ = some (.int .i64 0) := cell_of_row _ _ _ _ _ _ hPI.b2
    have f0 : W.frozen? ⟨w.heap.size, 0, none⟩ = false := frozen_of_row _ _ _ _ _ hPI.b0
    have f1 : W.frozen? ⟨w.heap.size + 1, 0, none⟩ = false := frozen_of_row _ _ _ _ _ hPI.b1
    have f2 : W.frozen? ⟨w.heap.size + 1 + 1, 0, none⟩ = false := frozen_of_row _ _ _ _ _ hPI.b2
    have HPI := hide hPI
    have hsz1' := hide hsz1
    clear hP hp2 hS hRs hPI hsz1
    gi_wp2_with fail
    obtain ⟨b0, b1, b2, b3⟩ := HPI.out.bad (.slice A rs.length c) (.int .i64 0) (.int .i64 0)
    have hown4 := ownsRow_setCell_below (ownsRow_setCell_below (ownsRow_setCell_below HPI.out.own (a := ⟨w.heap.size, 0, none⟩) (by show w.heap.size < X; have := hsz1'.out; omega) (.slice A rs.length c)) (a := ⟨w.heap.size + 1, 0, none⟩) (by show w.heap.size + 1 < X; have := hsz1'.out; omega) (.int .i64 0)) (a := ⟨w.heap.size + 1 + 1, 0, none⟩) (by show w.heap.size + 1 + 1 < X; have := hsz1'.out; omega) (.int .i64 0)
    have hzz := hsz1'.out
    have hK' : (((W.setCell ⟨w.heap.size, 0, none⟩ (.slice A rs.length c)).setCell ⟨w.heap.size + 1, 0, none⟩ (.int .i64 0)).setCell ⟨w.heap.size + 1 + 1, 0, none⟩ (.int .i64 0)).heap[D]? = some (.deferred (some [])) :=
      (heap_setCell_other _ _ _ _ (by simp; omega)).trans ((heap_setCell_other _ _ _ _ (by simp; omega)).trans ((heap_setCell_other _ _ _ _ (by simp; omega)).trans hK))
    generalize ((W.setCell ⟨w.heap.size, 0, none⟩ (.slice A rs.length c)).setCell ⟨w.heap.size + 1, 0, none⟩ (.int .i64 0)).setCell ⟨w.heap.size + 1 + 1, 0, none⟩ (.int .i64 0) = W4 at b0 b1 b2 b3 hown4 hK' ⊢
    refine ⟨by simp, .inl ⟨_, _, rfl, run_takeDeferred hK', ?_⟩⟩
    have q0 : (W4.putObj D (.deferred none)).cell? ⟨w.heap.size, 0, none⟩ = some (.slice A rs.length c) := cell_of_row _ _ _ _ _ _ ((World.putObj_heap_other (by omega)).trans b0)
    have q1 : (W4.putObj D (.deferred none)).cell? ⟨w.heap.size + 1, 0, none⟩ = some (.int .i64 0) := cell_of_row _ _ _ _ _ _ ((World.putObj_heap_other (by omega)).trans b1)
    have q2 : (W4.putObj D (.deferred none)).cell? ⟨w.heap.size + 1 + 1, 0, none⟩ = some (.int .i64 0) := cell_of_row _ _ _ _ _ _ ((World.putObj_heap_other (by omega)).trans b2)
    have hown5 := hown4.kept (grownBy_putObj' W4 D (.deferred none)) (by
      cases ho : (Value.slice A rs.length c).ownBlock with
      | none => exact .inl rfl
      | some k =>
        right
        intro e
        have h1 := (hown4.lt k ho).1
        injection e with e
        omega)
    refine ⟨.tuple #[.slice A rs.length c, .int .i64 0, .int .i64 0], ?_, HGoodP.out _ _ A rs c (b3.grown (grownBy_putObj' _ D (.deferred none)) b3.size (fun r e => by cases e; omega)) HP2.out rfl HRs.out (RdE.own hown5)⟩
    simp [results, Tryd.f17, go_sem, q0, q1, q2]
  case stop =>
    rintro X D c pre W hX hD hDX hS ⟨rfl, hE0, h3, h4, h5, h6⟩ hK
    gi_wp2_with fail
    refine ⟨by simp, .inl ⟨_, _, rfl, run_takeDeferred hK, ?_⟩⟩
    have q0 : (W.putObj D (.deferred none)).cell? ⟨w.heap.size, 0, none⟩ = some (.slice none 0 0) := cell_of_row _ _ _ _ _ _ ((World.putObj_heap_other (by omega)).trans h3)
    have q1 : (W.putObj D (.deferred none)).cell? ⟨w.heap.size + 1, 0, none⟩ = some (.int .i64 (N : Nat)) := cell_of_row _ _ _ _ _ _ ((World.putObj_heap_other (by omega)).trans h4)
    have q2 : (W.putObj D (.deferred none)).cell? ⟨w.heap.size + 1 + 1, 0, none⟩ = some (.int .i64 3) := cell_of_row _ _ _ _ _ _ ((World.putObj_heap_other (by omega)).trans h5)
    refine ⟨.tuple #[.slice none 0 0, .int .i64 (N : Nat), .int .i64 3], ?_, HBadP.out _ _ (h6.grown (grownBy_putObj' _ D (.deferred none)) h6.size (fun r e => by cases e; omega)) hE0.out rfl⟩
    simp [results, Tryd.f17, go_sem, q0, q1, q2]
end Go.Proofs.YtlohoamhgioheaaDoor
