/-
  edit.Line: an edit's line.
-/
import Derived.Test.YtlohoamhgioheaaDoorEdRight
import Derived.Test.YtlohoamhgioheaaDoorEdJoin
namespace Go.Proofs.YtlohoamhgioheaaDoor
open Go.RowKit Go.Sort
set_option maxRecDepth 100000

def numB (n : Int) : ByteArray := ⟨(Lib.itoa n).toArray⟩
/-- An edit's fields, in the order of its line. -/
def partsB (k : Int) (f t : ByteArray) (n : Int) : List ByteArray := wordB k :: ((if hasX k 1 then [f] else []) ++ ((if hasX k 2 then [t] else []) ++ (if hasX k 4 then [numB n] else [])))
/-- An edit's line; nothing, if it isn't right. -/
def lineB (k : Int) (f t : ByteArray) (n : Int) : ByteArray := if rightE k f t n then ⟨(Lib.join ((partsB k f t n).map toL) [32]).toArray⟩ else ⟨#[]⟩
/-- What Line has put together. -/
structure LI (w : World) (row : Array Value) (v : Value) (cs : List ByteArray) (W : World) : Prop where
  below : Below w.heap.size w W
  row : W.heap[w.heap.size]? = some (.cells row 23 (0, 0))
  own : W.ownsRow (w.heap.size + 1) 9 1 v cs.length (cs.map Value.string)
  sz : w.heap.size + 1 ≤ W.heap.size
theorem LI.grown {w A B : World} {row : Array Value} {v : Value} {cs : List ByteArray} (h : LI w row v cs A) (hb : Below A.heap.size A B) : LI w row v cs B := by
  have hr := (hb.block w.heap.size (by have := h.sz; omega)).trans h.row
  exact ⟨h.below.trans (hb.mono h.below.size), hr, h.own.kept (grownBy_below hb) (by cases hv : v.ownBlock with | none => exact .inl rfl | some _ => exact .inr (by simp)), Nat.le_trans h.sz hb.size⟩
theorem LI.more {w W w' : World} {row : Array Value} {v v' : Value} {cs : List ByteArray} {x : ByteArray} (h : LI w row v cs W) (O : Obj) (ho : w'.ownsRow (w.heap.size + 1) 9 1 v' (cs.length + 1) (cs.map Value.string ++ [.string x])) (hg : (W.alloc O).grownBy w' v.ownBlock) : LI w row v' (cs ++ [x]) w' := by
  have hz := h.sz
  refine ⟨(h.below.alloc h.below.size O).grown hg (by simp; omega) (fun r e => by have := (h.own.lt r e).1; omega), ?_, ?_, ?_⟩
  · rw [hg.block w.heap.size (by simp; omega) (fun e => by have := (h.own.lt _ e.symm).1; omega), Below.heap_alloc _ _ _ (by omega)]
    exact h.row
  · rw [List.length_append, List.map_append]; exact ho
  · have := hg.size
    simp at this
    omega
theorem line_len (k : Int) (f t : ByteArray) (n : Int) (hr : rightE k f t n = true) (hf : (f.size : Int) ≤ 400000) (ht : (t.size : Int) ≤ 400000) : (Lib.join ((partsB k f t n).map toL) [32]).length ≤ 900000 := by
  have hw : (wordL k).length ≤ 6 := by
    by_cases h : wordL k = []
    · rw [h]; simp
    · rcases kinds_cases h with rfl | rfl | rfl | rfl | rfl | rfl | rfl | rfl | rfl <;> decide
  have hn : 0 ≤ n ∧ n ≤ 511 := by
    unfold rightE at hr
    simp only [Bool.and_eq_true, decide_eq_true_eq] at hr
    omega
  have hi := (itoa_back hn.1 hn.2).2.2
  have e1 : toL (wordB k) = wordL k := wordB_toL k
  have e2 : toL (numB n) = Lib.itoa n := by unfold toL numB; simp
  have e3 : (toL f).length = f.size := by simp [toL]
  have e4 : (toL t).length = t.size := by simp [toL]
  unfold partsB
  generalize Lib.itoa n = I at hi e2
  cases hasX k 1 <;> cases hasX k 2 <;> cases hasX k 4 <;> simp [parts_two, parts_three, parts_four, Lib.join_one, e1, e2, e3, e4] <;> omega

set_option maxHeartbeats 8000000 in
theorem line_any (k : Int) (f t : ByteArray) (n : Int) (w : World) (hT : Tabs w) (hf : (f.size : Int) ≤ 400000) (ht : (t.size : Int) ≤ 400000) :
    Calls Tryd.prog 8 #[.agg #[.int .i64 k, .string f, .string t, .int .i64 n]] w fun e w' => e = .returned (.string (lineB k f t n)) ∧ Below w.heap.size w w' := by
  obtain ⟨i0, hi, hz0, hz1, hz2⟩ := info_parts info_string
  have HT := hide hT
  have HW := hide (fun W (hb : Below w.heap.size w W) => word_any k W (HT.out.below hb))
  have HX := hide (fun W (hb : Below w.heap.size w W) b hb' => has_any k b W (HT.out.below hb) hb')
  have HRt := hide (fun W (hb : Below w.heap.size w W) => edRight_any k f t n W (HT.out.below hb) (by omega) (by omega))
  have HJ := hide (fun A cs c W => join_any A cs c W)
  clear hT
  obtain ⟨w1, hw1⟩ : ∃ w1, w1 = w.alloc (.cells #[.int .i64 k, .string f, .string t, .int .i64 n] 23) := ⟨_, rfl⟩
  have hb1 : Below w.heap.size w w1 := by rw [hw1]; exact (Below.refl _ _).alloc (Nat.le_refl _) _
  have hn : w1.heap[w.heap.size]? = some (.cells #[.int .i64 k, .string f, .string t, .int .i64 n] 23 (0, 0)) := by rw [hw1]; exact World.alloc_heap_new _ _
  have hzw : w.heap.size + 1 = w1.heap.size := by rw [hw1]; simp
  have HB1 := hide hb1
  have HN := hide hn
  cases hr : rightE k f t n with
  | false =>
    have HE := hide (show lineB k f t n = ⟨#[]⟩ by unfold lineB; rw [hr]; rfl)
    have HR1 := hide (HRt.out w1 HB1.out)
    rw [hr] at HR1
    go_enter Tryd.func8, Tryd.ntmps8
    go_wp2_with fail
    rw [← hw1]
    clear hw1 hr
    have d0 : w1.cell? ⟨w.heap.size, 0, none⟩ = some (.int .i64 k) := cell_of_row _ _ _ _ _ _ hn
    have d1 : w1.cell? ⟨w.heap.size, 1, none⟩ = some (.string f) := cell_of_row _ _ _ _ _ _ hn
    have d2 : w1.cell? ⟨w.heap.size, 2, none⟩ = some (.string t) := cell_of_row _ _ _ _ _ _ hn
    have d3 : w1.cell? ⟨w.heap.size, 3, none⟩ = some (.int .i64 n) := cell_of_row _ _ _ _ _ _ hn
    clear hn hb1
    go_wp2_with fail
    refine (HR1.out).mono ?_
    rintro e w2 ⟨rfl, hb2⟩
    have HB2 := hide (HB1.out.trans (hb2.mono HB1.out.size))
    clear hb2 d0 d1 d2 d3
    go_wp2_with fail
    exact bodyPost_ret (results_tmp rfl _ _ _) rfl ⟨by rw [HE.out]; rfl, HB2.out⟩
  | true =>
    have HE := hide (show lineB k f t n = ⟨(Lib.join ((partsB k f t n).map toL) [32]).toArray⟩ by unfold lineB; rw [hr]; rfl)
    have HLen := hide (line_len k f t n hr hf ht)
    have hn01 : hasX k 4 = true → 0 ≤ n ∧ n ≤ 511 := fun _ => by
      unfold rightE at hr
      simp only [Bool.and_eq_true, decide_eq_true_eq] at hr
      omega
    have HN01 := hide hn01
    have HR1 := hide (HRt.out w1 HB1.out)
    rw [hr] at HR1
    go_enter Tryd.func8, Tryd.ntmps8
    go_wp2_with fail
    rw [← hw1]
    clear hw1 hr hn01
    have d0 : w1.cell? ⟨w.heap.size, 0, none⟩ = some (.int .i64 k) := cell_of_row _ _ _ _ _ _ hn
    have d1 : w1.cell? ⟨w.heap.size, 1, none⟩ = some (.string f) := cell_of_row _ _ _ _ _ _ hn
    have d2 : w1.cell? ⟨w.heap.size, 2, none⟩ = some (.string t) := cell_of_row _ _ _ _ _ _ hn
    have d3 : w1.cell? ⟨w.heap.size, 3, none⟩ = some (.int .i64 n) := cell_of_row _ _ _ _ _ _ hn
    clear hn hb1
    go_wp2_with fail
    refine (HR1.out).mono ?_
    rintro e w2 ⟨rfl, hb2⟩
    have HB2 := hide (HB1.out.trans (hb2.mono HB1.out.size))
    have hn2 := hide ((hb2.block w.heap.size (by omega)).trans HN.out)
    have c0 : w2.cell? ⟨w.heap.size, 0, none⟩ = some (.int .i64 k) := cell_of_row _ _ _ _ _ _ hn2.out
    have hz2' : w.heap.size + 1 ≤ w2.heap.size := by rw [hzw]; exact hb2.size
    clear hb2 d0 d1 d2 d3
    go_wp2_with fail
    refine (HW.out _ HB2.out).mono ?_
    rintro e w3 ⟨rfl, rfl⟩
    obtain ⟨W4, hW4⟩ : ∃ W4, W4 = w3.alloc (.cells #[.string (wordB k)] 9) := ⟨_, rfl⟩
    have hL : LI w #[.int .i64 k, .string f, .string t, .int .i64 n] (.slice (some ⟨w3.heap.size, 0, none⟩) 1 1) [wordB k] W4 := by
      rw [hW4]
      exact ⟨HB2.out.alloc HB2.out.size _, (Below.heap_alloc _ _ _ (by omega)).trans hn2.out, World.ownsRow_lit w3 _ _ hz2' (by decide) rfl, by simp; omega⟩
    have d0 : W4.cell? ⟨w.heap.size, 0, none⟩ = some (.int .i64 k) := cell_of_row _ _ _ _ _ _ hL.row
    rw [hW4] at d0
    go_wp2_with fail
    rw [← hW4] at d0 ⊢
    clear hW4 c0 hz2' HB1 HN HR1 HRt hzw
    have HL := hide hL
    clear hL
    generalize w3.heap.size = gx at HL ⊢
    have HX1 := hide (HX.out W4 HL.out.below 1 (by simp))
    cases hx1 : hasX k 1 with
    | false =>
      rw [hx1] at HX1
      refine (HX1.out).mono ?_
      rintro e wq ⟨rfl, rfl⟩
      go_wp2_with fail
      have HX2 := hide (HX.out wq HL.out.below 2 (by simp))
      cases hx2 : hasX k 2 with
      | false =>
        rw [hx2] at HX2
        refine (HX2.out).mono ?_
        rintro e wq ⟨rfl, rfl⟩
        go_wp2_with fail
        have HX4 := hide (HX.out wq HL.out.below 4 (by simp))
        cases hx4 : hasX k 4 with
        | false =>
          rw [hx4] at HX4
          refine (HX4.out).mono ?_
          rintro e wq ⟨rfl, rfl⟩
          have hP : partsB k f t n = [wordB k] := by unfold partsB; rw [hx1, hx2, hx4]; rfl
          have HLen2 := hide (hP ▸ HLen.out)
          have HE2 := hide (hP ▸ HE.out)
          have HB9 := hide HL.out.below
          have HJ2 := hide (HJ.out (some ⟨gx, 0, none⟩) [wordB k] 1 wq (Rd.own HL.out.own) (ownsRow_cap HL.out.own) (by simp) (by have := HLen2.out; omega))
          clear hP hx1 hx2 hx4 d0
          go_wp2_with fail
          refine (HJ2.out).mono ?_
          rintro e w9 ⟨rfl, hb9⟩
          have HB10 := hide (HB9.out.trans (hb9.mono HB9.out.size))
          clear hb9
          go_wp2_with fail
          exact bodyPost_ret (results_tmp rfl _ _ _) rfl ⟨by rw [HE2.out]; rfl, HB10.out⟩
        | true =>
          rw [hx4] at HX4
          refine (HX4.out).mono ?_
          rintro e wq ⟨rfl, rfl⟩
          have d3 : wq.cell? ⟨w.heap.size, 3, none⟩ = some (.int .i64 n) := cell_of_row _ _ _ _ _ _ HL.out.row
          obtain ⟨n0, n1⟩ := HN01.out hx4
          have HI := hide (itoa_any n wq (HT.out.below HL.out.below) n0 n1)
          clear n0 n1
          go_wp2_with fail
          refine (HI.out).mono ?_
          rintro e wi ⟨rfl, hbi⟩
          have HLi := hide (HL.out.grown hbi)
          clear d0 d3 hbi HL
          have HL := HLi
          have hz9 := HL.out.sz
          go_wp2_with (at_builtin; refine wpList_append_own _ rfl _ _ 46 rfl (w.heap.size + 1) 9 i0 (.string ⟨#[]⟩) 1 16 Tryd.underlying46 hi hz0 hz1 hz2 rfl (by decide) _ _ _ rfl (HL.out.own.alloc _) ⟨wi.heap.size, 0, none⟩ 1 1 [.string (numB n)] rfl rfl (cell_one_new _ _ _) (by simp [Value.oneCell']) (by unfold maxLen; simp) (by simp) (by simp; omega) ?_)
          intro v1 w41 ho hg hnil
          obtain ⟨g1, cap1, rfl⟩ := ownsRow_succ ho
          have HL2 := hide (HL.out.more (x := numB n) _ ho hg)
          clear  HL ho hg hnil hz9
          have HL := HL2
          clear HL2
          have d0 : w41.cell? ⟨w.heap.size, 0, none⟩ = some (.int .i64 k) := cell_of_row _ _ _ _ _ _ HL.out.row
          have hP : partsB k f t n = [wordB k, numB n] := by unfold partsB; rw [hx1, hx2, hx4]; rfl
          have HLen2 := hide (hP ▸ HLen.out)
          have HE2 := hide (hP ▸ HE.out)
          have HB9 := hide HL.out.below
          have HJ2 := hide (HJ.out (some ⟨g1, 0, none⟩) [wordB k, numB n] cap1 w41 (Rd.own HL.out.own) (ownsRow_cap HL.out.own) (by simp) (by have := HLen2.out; omega))
          clear hP hx1 hx2 hx4 d0
          go_wp2_with fail
          refine (HJ2.out).mono ?_
          rintro e w9 ⟨rfl, hb9⟩
          have HB10 := hide (HB9.out.trans (hb9.mono HB9.out.size))
          clear hb9
          go_wp2_with fail
          exact bodyPost_ret (results_tmp rfl _ _ _) rfl ⟨by rw [HE2.out]; rfl, HB10.out⟩
      | true =>
        rw [hx2] at HX2
        refine (HX2.out).mono ?_
        rintro e wq ⟨rfl, rfl⟩
        have d2 : wq.cell? ⟨w.heap.size, 2, none⟩ = some (.string t) := cell_of_row _ _ _ _ _ _ HL.out.row
        have hz9 := HL.out.sz
        go_wp2_with (at_builtin; refine wpList_append_own _ rfl _ _ 46 rfl (w.heap.size + 1) 9 i0 (.string ⟨#[]⟩) 1 16 Tryd.underlying46 hi hz0 hz1 hz2 rfl (by decide) _ _ _ rfl (HL.out.own.alloc _) ⟨wq.heap.size, 0, none⟩ 1 1 [.string (t)] rfl rfl (cell_one_new _ _ _) (by simp [Value.oneCell']) (by unfold maxLen; simp) (by simp) (by simp; omega) ?_)
        intro v1 w21 ho hg hnil
        obtain ⟨g1, cap1, rfl⟩ := ownsRow_succ ho
        have HL2 := hide (HL.out.more (x := t) _ ho hg)
        clear d0 d2 HL ho hg hnil hz9
        have HL := HL2
        clear HL2
        have d0 : w21.cell? ⟨w.heap.size, 0, none⟩ = some (.int .i64 k) := cell_of_row _ _ _ _ _ _ HL.out.row
        go_wp2_with fail
        have HX4 := hide (HX.out w21 HL.out.below 4 (by simp))
        cases hx4 : hasX k 4 with
        | false =>
          rw [hx4] at HX4
          refine (HX4.out).mono ?_
          rintro e wq ⟨rfl, rfl⟩
          have hP : partsB k f t n = [wordB k, t] := by unfold partsB; rw [hx1, hx2, hx4]; rfl
          have HLen2 := hide (hP ▸ HLen.out)
          have HE2 := hide (hP ▸ HE.out)
          have HB9 := hide HL.out.below
          have HJ2 := hide (HJ.out (some ⟨g1, 0, none⟩) [wordB k, t] cap1 wq (Rd.own HL.out.own) (ownsRow_cap HL.out.own) (by simp) (by have := HLen2.out; omega))
          clear hP hx1 hx2 hx4 d0
          go_wp2_with fail
          refine (HJ2.out).mono ?_
          rintro e w9 ⟨rfl, hb9⟩
          have HB10 := hide (HB9.out.trans (hb9.mono HB9.out.size))
          clear hb9
          go_wp2_with fail
          exact bodyPost_ret (results_tmp rfl _ _ _) rfl ⟨by rw [HE2.out]; rfl, HB10.out⟩
        | true =>
          rw [hx4] at HX4
          refine (HX4.out).mono ?_
          rintro e wq ⟨rfl, rfl⟩
          have d3 : wq.cell? ⟨w.heap.size, 3, none⟩ = some (.int .i64 n) := cell_of_row _ _ _ _ _ _ HL.out.row
          obtain ⟨n0, n1⟩ := HN01.out hx4
          have HI := hide (itoa_any n wq (HT.out.below HL.out.below) n0 n1)
          clear n0 n1
          go_wp2_with fail
          refine (HI.out).mono ?_
          rintro e wi ⟨rfl, hbi⟩
          have HLi := hide (HL.out.grown hbi)
          clear d0 d3 hbi HL
          have HL := HLi
          have hz9 := HL.out.sz
          go_wp2_with (at_builtin; refine wpList_append_own _ rfl _ _ 46 rfl (w.heap.size + 1) 9 i0 (.string ⟨#[]⟩) 1 16 Tryd.underlying46 hi hz0 hz1 hz2 rfl (by decide) _ _ _ rfl (HL.out.own.alloc _) ⟨wi.heap.size, 0, none⟩ 1 1 [.string (numB n)] rfl rfl (cell_one_new _ _ _) (by simp [Value.oneCell']) (by unfold maxLen; simp) (by simp) (by simp; omega) ?_)
          intro v2 w42 ho hg hnil
          obtain ⟨g2, cap2, rfl⟩ := ownsRow_succ ho
          have HL2 := hide (HL.out.more (x := numB n) _ ho hg)
          clear  HL ho hg hnil hz9
          have HL := HL2
          clear HL2
          have d0 : w42.cell? ⟨w.heap.size, 0, none⟩ = some (.int .i64 k) := cell_of_row _ _ _ _ _ _ HL.out.row
          have hP : partsB k f t n = [wordB k, t, numB n] := by unfold partsB; rw [hx1, hx2, hx4]; rfl
          have HLen2 := hide (hP ▸ HLen.out)
          have HE2 := hide (hP ▸ HE.out)
          have HB9 := hide HL.out.below
          have HJ2 := hide (HJ.out (some ⟨g2, 0, none⟩) [wordB k, t, numB n] cap2 w42 (Rd.own HL.out.own) (ownsRow_cap HL.out.own) (by simp) (by have := HLen2.out; omega))
          clear hP hx1 hx2 hx4 d0
          go_wp2_with fail
          refine (HJ2.out).mono ?_
          rintro e w9 ⟨rfl, hb9⟩
          have HB10 := hide (HB9.out.trans (hb9.mono HB9.out.size))
          clear hb9
          go_wp2_with fail
          exact bodyPost_ret (results_tmp rfl _ _ _) rfl ⟨by rw [HE2.out]; rfl, HB10.out⟩
    | true =>
      rw [hx1] at HX1
      refine (HX1.out).mono ?_
      rintro e wq ⟨rfl, rfl⟩
      have d1 : wq.cell? ⟨w.heap.size, 1, none⟩ = some (.string f) := cell_of_row _ _ _ _ _ _ HL.out.row
      have hz9 := HL.out.sz
      go_wp2_with (at_builtin; refine wpList_append_own _ rfl _ _ 46 rfl (w.heap.size + 1) 9 i0 (.string ⟨#[]⟩) 1 16 Tryd.underlying46 hi hz0 hz1 hz2 rfl (by decide) _ _ _ rfl (HL.out.own.alloc _) ⟨wq.heap.size, 0, none⟩ 1 1 [.string (f)] rfl rfl (cell_one_new _ _ _) (by simp [Value.oneCell']) (by unfold maxLen; simp) (by simp) (by simp; omega) ?_)
      intro v1 w11 ho hg hnil
      obtain ⟨g1, cap1, rfl⟩ := ownsRow_succ ho
      have HL2 := hide (HL.out.more (x := f) _ ho hg)
      clear d0 d1 HL ho hg hnil hz9
      have HL := HL2
      clear HL2
      have d0 : w11.cell? ⟨w.heap.size, 0, none⟩ = some (.int .i64 k) := cell_of_row _ _ _ _ _ _ HL.out.row
      go_wp2_with fail
      have HX2 := hide (HX.out w11 HL.out.below 2 (by simp))
      cases hx2 : hasX k 2 with
      | false =>
        rw [hx2] at HX2
        refine (HX2.out).mono ?_
        rintro e wq ⟨rfl, rfl⟩
        go_wp2_with fail
        have HX4 := hide (HX.out wq HL.out.below 4 (by simp))
        cases hx4 : hasX k 4 with
        | false =>
          rw [hx4] at HX4
          refine (HX4.out).mono ?_
          rintro e wq ⟨rfl, rfl⟩
          have hP : partsB k f t n = [wordB k, f] := by unfold partsB; rw [hx1, hx2, hx4]; rfl
          have HLen2 := hide (hP ▸ HLen.out)
          have HE2 := hide (hP ▸ HE.out)
          have HB9 := hide HL.out.below
          have HJ2 := hide (HJ.out (some ⟨g1, 0, none⟩) [wordB k, f] cap1 wq (Rd.own HL.out.own) (ownsRow_cap HL.out.own) (by simp) (by have := HLen2.out; omega))
          clear hP hx1 hx2 hx4 d0
          go_wp2_with fail
          refine (HJ2.out).mono ?_
          rintro e w9 ⟨rfl, hb9⟩
          have HB10 := hide (HB9.out.trans (hb9.mono HB9.out.size))
          clear hb9
          go_wp2_with fail
          exact bodyPost_ret (results_tmp rfl _ _ _) rfl ⟨by rw [HE2.out]; rfl, HB10.out⟩
        | true =>
          rw [hx4] at HX4
          refine (HX4.out).mono ?_
          rintro e wq ⟨rfl, rfl⟩
          have d3 : wq.cell? ⟨w.heap.size, 3, none⟩ = some (.int .i64 n) := cell_of_row _ _ _ _ _ _ HL.out.row
          obtain ⟨n0, n1⟩ := HN01.out hx4
          have HI := hide (itoa_any n wq (HT.out.below HL.out.below) n0 n1)
          clear n0 n1
          go_wp2_with fail
          refine (HI.out).mono ?_
          rintro e wi ⟨rfl, hbi⟩
          have HLi := hide (HL.out.grown hbi)
          clear d0 d3 hbi HL
          have HL := HLi
          have hz9 := HL.out.sz
          go_wp2_with (at_builtin; refine wpList_append_own _ rfl _ _ 46 rfl (w.heap.size + 1) 9 i0 (.string ⟨#[]⟩) 1 16 Tryd.underlying46 hi hz0 hz1 hz2 rfl (by decide) _ _ _ rfl (HL.out.own.alloc _) ⟨wi.heap.size, 0, none⟩ 1 1 [.string (numB n)] rfl rfl (cell_one_new _ _ _) (by simp [Value.oneCell']) (by unfold maxLen; simp) (by simp) (by simp; omega) ?_)
          intro v2 w42 ho hg hnil
          obtain ⟨g2, cap2, rfl⟩ := ownsRow_succ ho
          have HL2 := hide (HL.out.more (x := numB n) _ ho hg)
          clear  HL ho hg hnil hz9
          have HL := HL2
          clear HL2
          have d0 : w42.cell? ⟨w.heap.size, 0, none⟩ = some (.int .i64 k) := cell_of_row _ _ _ _ _ _ HL.out.row
          have hP : partsB k f t n = [wordB k, f, numB n] := by unfold partsB; rw [hx1, hx2, hx4]; rfl
          have HLen2 := hide (hP ▸ HLen.out)
          have HE2 := hide (hP ▸ HE.out)
          have HB9 := hide HL.out.below
          have HJ2 := hide (HJ.out (some ⟨g2, 0, none⟩) [wordB k, f, numB n] cap2 w42 (Rd.own HL.out.own) (ownsRow_cap HL.out.own) (by simp) (by have := HLen2.out; omega))
          clear hP hx1 hx2 hx4 d0
          go_wp2_with fail
          refine (HJ2.out).mono ?_
          rintro e w9 ⟨rfl, hb9⟩
          have HB10 := hide (HB9.out.trans (hb9.mono HB9.out.size))
          clear hb9
          go_wp2_with fail
          exact bodyPost_ret (results_tmp rfl _ _ _) rfl ⟨by rw [HE2.out]; rfl, HB10.out⟩
      | true =>
        rw [hx2] at HX2
        refine (HX2.out).mono ?_
        rintro e wq ⟨rfl, rfl⟩
        have d2 : wq.cell? ⟨w.heap.size, 2, none⟩ = some (.string t) := cell_of_row _ _ _ _ _ _ HL.out.row
        have hz9 := HL.out.sz
        go_wp2_with (at_builtin; refine wpList_append_own _ rfl _ _ 46 rfl (w.heap.size + 1) 9 i0 (.string ⟨#[]⟩) 1 16 Tryd.underlying46 hi hz0 hz1 hz2 rfl (by decide) _ _ _ rfl (HL.out.own.alloc _) ⟨wq.heap.size, 0, none⟩ 1 1 [.string (t)] rfl rfl (cell_one_new _ _ _) (by simp [Value.oneCell']) (by unfold maxLen; simp) (by simp) (by simp; omega) ?_)
        intro v2 w22 ho hg hnil
        obtain ⟨g2, cap2, rfl⟩ := ownsRow_succ ho
        have HL2 := hide (HL.out.more (x := t) _ ho hg)
        clear d0 d2 HL ho hg hnil hz9
        have HL := HL2
        clear HL2
        have d0 : w22.cell? ⟨w.heap.size, 0, none⟩ = some (.int .i64 k) := cell_of_row _ _ _ _ _ _ HL.out.row
        go_wp2_with fail
        have HX4 := hide (HX.out w22 HL.out.below 4 (by simp))
        cases hx4 : hasX k 4 with
        | false =>
          rw [hx4] at HX4
          refine (HX4.out).mono ?_
          rintro e wq ⟨rfl, rfl⟩
          have hP : partsB k f t n = [wordB k, f, t] := by unfold partsB; rw [hx1, hx2, hx4]; rfl
          have HLen2 := hide (hP ▸ HLen.out)
          have HE2 := hide (hP ▸ HE.out)
          have HB9 := hide HL.out.below
          have HJ2 := hide (HJ.out (some ⟨g2, 0, none⟩) [wordB k, f, t] cap2 wq (Rd.own HL.out.own) (ownsRow_cap HL.out.own) (by simp) (by have := HLen2.out; omega))
          clear hP hx1 hx2 hx4 d0
          go_wp2_with fail
          refine (HJ2.out).mono ?_
          rintro e w9 ⟨rfl, hb9⟩
          have HB10 := hide (HB9.out.trans (hb9.mono HB9.out.size))
          clear hb9
          go_wp2_with fail
          exact bodyPost_ret (results_tmp rfl _ _ _) rfl ⟨by rw [HE2.out]; rfl, HB10.out⟩
        | true =>
          rw [hx4] at HX4
          refine (HX4.out).mono ?_
          rintro e wq ⟨rfl, rfl⟩
          have d3 : wq.cell? ⟨w.heap.size, 3, none⟩ = some (.int .i64 n) := cell_of_row _ _ _ _ _ _ HL.out.row
          obtain ⟨n0, n1⟩ := HN01.out hx4
          have HI := hide (itoa_any n wq (HT.out.below HL.out.below) n0 n1)
          clear n0 n1
          go_wp2_with fail
          refine (HI.out).mono ?_
          rintro e wi ⟨rfl, hbi⟩
          have HLi := hide (HL.out.grown hbi)
          clear d0 d3 hbi HL
          have HL := HLi
          have hz9 := HL.out.sz
          go_wp2_with (at_builtin; refine wpList_append_own _ rfl _ _ 46 rfl (w.heap.size + 1) 9 i0 (.string ⟨#[]⟩) 1 16 Tryd.underlying46 hi hz0 hz1 hz2 rfl (by decide) _ _ _ rfl (HL.out.own.alloc _) ⟨wi.heap.size, 0, none⟩ 1 1 [.string (numB n)] rfl rfl (cell_one_new _ _ _) (by simp [Value.oneCell']) (by unfold maxLen; simp) (by simp) (by simp; omega) ?_)
          intro v3 w43 ho hg hnil
          obtain ⟨g3, cap3, rfl⟩ := ownsRow_succ ho
          have HL2 := hide (HL.out.more (x := numB n) _ ho hg)
          clear  HL ho hg hnil hz9
          have HL := HL2
          clear HL2
          have d0 : w43.cell? ⟨w.heap.size, 0, none⟩ = some (.int .i64 k) := cell_of_row _ _ _ _ _ _ HL.out.row
          have hP : partsB k f t n = [wordB k, f, t, numB n] := by unfold partsB; rw [hx1, hx2, hx4]; rfl
          have HLen2 := hide (hP ▸ HLen.out)
          have HE2 := hide (hP ▸ HE.out)
          have HB9 := hide HL.out.below
          have HJ2 := hide (HJ.out (some ⟨g3, 0, none⟩) [wordB k, f, t, numB n] cap3 w43 (Rd.own HL.out.own) (ownsRow_cap HL.out.own) (by simp) (by have := HLen2.out; omega))
          clear hP hx1 hx2 hx4 d0
          go_wp2_with fail
          refine (HJ2.out).mono ?_
          rintro e w9 ⟨rfl, hb9⟩
          have HB10 := hide (HB9.out.trans (hb9.mono HB9.out.size))
          clear hb9
          go_wp2_with fail
          exact bodyPost_ret (results_tmp rfl _ _ _) rfl ⟨by rw [HE2.out]; rfl, HB10.out⟩
end Go.Proofs.YtlohoamhgioheaaDoor
