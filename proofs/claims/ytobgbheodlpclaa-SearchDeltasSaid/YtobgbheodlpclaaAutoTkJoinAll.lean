/-
  Texts that belong together: TkJoin, TkJoinAll.
-/
import Derived.Test.YtobgbheodlpclaaTkOne
import Derived.Test.YtobgbheodlpclaaTkGet
import Derived.Deep.RegionWith
/-
  Tokens put together: one, Join.
-/
namespace Go.Proofs.Ytobgbheodlpclaa
open Go.RowKit
set_option maxRecDepth 100000

/-- How many blocks there are. -/
def manyL : List Tk → Int
  | [] => 0
  | t :: l => t.many + manyL l
/-- The bytes of all texts. -/
def dataL (l : List Tk) : List UInt8 := l.flatMap fun t => toL t.data
/-- The token that stands for those of a list. -/
def oneL (l : List Tk) : Tk := ⟨(l.head?.map Tk.from_).getD 0, manyL l, ofL (dataL l)⟩
theorem manyL_drop (l : List Tk) (i : Nat) (t : Tk) (h : l[i]? = some t) : manyL (l.drop i) = t.many + manyL (l.drop (i + 1)) := by
  obtain ⟨hlt, e⟩ := List.getElem?_eq_some_iff.1 h
  rw [List.drop_eq_getElem_cons hlt, e]; rfl
theorem dataL_take (l : List Tk) (i : Nat) (t : Tk) (h : l[i]? = some t) : dataL (l.take (i + 1)) = dataL (l.take i) ++ toL t.data := by
  obtain ⟨hlt, e⟩ := List.getElem?_eq_some_iff.1 h
  rw [← List.take_append_getElem hlt, e]
  simp [dataL]
theorem dataL_len : ∀ l : List Tk, (dataL l).length = sizeL l
  | [] => rfl
  | t :: l => by
    have := dataL_len l
    unfold dataL at this ⊢
    rw [List.flatMap_cons, List.length_append, this]; rfl
theorem sizeL_take (l : List Tk) (i : Nat) : sizeL (l.take i) ≤ sizeL l := by
  have := sizeL_app (l.take i) (l.drop i)
  rw [List.take_append_drop] at this
  omega
theorem right_many {t : Tk} (h : rightT t = true) : 0 ≤ t.many ∧ t.many ≤ 4097 := by
  rcases right_cases h with ⟨h1, h2, h3, h4⟩ | ⟨h1, h2, h3, h4⟩ <;> omega
theorem isBuf_keep {B b : Nat} {bs : List Value} {w w' : World} (h : IsBuf B b bs w) (hb : Below w.heap.size w w') : IsBuf B b bs w' := by
  have k : ∀ p, BufAt B b p bs w → BufAt B b p bs w' := fun p ⟨h1, v, h2, h3, h4⟩ => ⟨h1, v, (hb.block b (Array.getElem?_eq_some_iff.1 h2).1).trans h2, own_below h3 hb, h4⟩
  exact h.imp (k _) (k _)

set_option maxHeartbeats 16000000 in
theorem one_any (A : Option Addr) (l : List Tk) (c : Nat) (w : World) (hA : RdT w w.heap.size A l) (h0 : l ≠ []) (hl : (l.length : Int) ≤ 1000) (hs : sizeL l ≤ 1000000) (hr : ∀ t ∈ l, rightT t = true) :
    Calls Try.prog 93 #[.slice A l.length c] w fun e w' => e = .returned (.agg (oneL l).cells) ∧ Below w.heap.size w w' := by
  obtain ⟨a0, ha0⟩ : ∃ a, l[0]? = some a := ⟨_, List.getElem?_eq_getElem (List.length_pos_iff.2 h0)⟩
  have hl1 : (0 : Int) < l.length := by have := List.length_pos_iff.2 h0; omega
  obtain ⟨V, hV⟩ : ∃ V, V = manyL l := ⟨_, rfl⟩
  have HV := hide (show 0 + manyL (l.drop 0) = V by rw [hV]; simp)
  have HOne := hide (show oneL l = ⟨a0.from_, V, ofL (dataL l)⟩ by
    rw [hV]
    cases l with
    | nil => exact absurd rfl h0
    | cons x r => simp at ha0; subst ha0; rfl)
  have HA := hide hA
  have HRi := hide hr
  have hrow := World.alloc_heap_new w (Obj.cells #[.int .i64 0, .int .i64 0, .string ⟨#[]⟩] 71)
  have hb1 := (Below.refl w.heap.size w).alloc (Nat.le_refl _) (.cells #[.int .i64 0, .int .i64 0, .string ⟨#[]⟩] 71)
  have hfr := Lib.fresh_isBuilder 168 5 (w.alloc (.cells #[.int .i64 0, .int .i64 0, .string ⟨#[]⟩] 71))
  have hz1 : (w.alloc (.cells #[.int .i64 0, .int .i64 0, .string ⟨#[]⟩] 71)).heap.size = w.heap.size + 1 := by simp
  rw [hz1] at hfr
  have HB0 := hide (hb1.alloc hb1.size (.cells #[.pointer none, .slice none 0 0] 168))
  have HR0 := hide ((Below.heap_alloc _ (.cells #[.pointer none, .slice none 0 0] 168) _ (by rw [hz1]; omega)).trans hrow)
  have hz2 : w.heap.size + 1 ≤ ((w.alloc (.cells #[.int .i64 0, .int .i64 0, .string ⟨#[]⟩] 71)).alloc (.cells #[.pointer none, .slice none 0 0] 168)).heap.size := by simp
  have HF0 := hide hfr
  clear hV hA hr h0 hrow hb1 hfr
  go_enter Try.func93, Try.ntmps93
  go_wp2_with fail
  clear hz1
  go_loopg [3, 9] l.length (fun gk mv iv wr => ∃ (i m : Nat), mv = .int .i64 m ∧ iv = .int .i64 i ∧ i + gk = l.length ∧ m ≤ i * 4097 ∧ Hid (IsBuf (w.heap.size + 1) (w.heap.size + 1) (Lib.byteCells (dataL (l.take i))) wr) ∧ Hid (wr.heap[w.heap.size]? = some (.cells #[.int .i64 0, .int .i64 0, .string ⟨#[]⟩] 71 (0, 0))) ∧ Hid (Below w.heap.size w wr) ∧ w.heap.size + 1 ≤ wr.heap.size ∧ Hid (m + manyL (l.drop i) = V))
  case atStart => exact ⟨0, 0, rfl, rfl, by omega, by omega, HF0, HR0, HB0, hz2, HV⟩
  case round =>
    obtain ⟨i, m, rfl, rfl, hig, hmi, HF, HRow, HB, hzr, HQ⟩ := hrel
    clear HV HF0 HR0 HB0
    cases gk with
    | zero =>
      obtain rfl : i = l.length := by omega
      have HE := hide (show V = (m : Int) by rw [← HQ.out, List.drop_length]; simp [manyL])
      have hFin := HF.out
      rw [List.take_length] at hFin
      have HBd := hide hFin
      obtain ⟨ad, rfl, hlt, hnd⟩ := (HA.out.below HB.out (Nat.le_refl _)) 0 a0 ha0
      have c0 : wr.cell? ad = some (.int .i64 a0.from_) := by have h := hnd.from_; rwa [show ad.add (0 * 3) = ad from rfl] at h
      have c0' : wr.cell? (ad.add 0) = some (.int .i64 a0.from_) := c0
      have HB2 := hide HB.out.drew
      have HRow2 := hide (show wr.drew.heap[w.heap.size]? = _ from HRow.out)
      have HBuf2 := hide (isBuf_keep HBd.out (Below.refl wr.heap.size wr).drew)
      have hzr2 : w.heap.size + 1 ≤ wr.drew.heap.size := hzr
      have hn0 : (0 : Int) ≤ 0 := by decide
      have hn1 : 0 < l.length := by omega
      have hn2 : ¬ l = [] := List.length_pos_iff.1 hn1
      have hlw : ad.block < w.heap.size := hlt
      have HSk := hide (fun (W : World) (h : Below (w.heap.size + 1) wr.drew W) => (⟨(h.cell (by omega)).trans c0, (h.cell (by rw [add_block]; omega)).trans c0', (h.cell (p := ⟨_, _, none⟩) (Nat.lt_succ_self _)).trans (cell_of_row _ _ _ _ _ _ HRow2.out), (h.cell (p := ⟨_, _, none⟩) (Nat.lt_succ_self _)).trans (cell_of_row _ _ _ _ _ _ HRow2.out), (h.cell (p := ⟨_, _, none⟩) (Nat.lt_succ_self _)).trans (cell_of_row _ _ _ _ _ _ HRow2.out), frozen_of_row _ _ _ _ _ ((h.block w.heap.size (Nat.lt_succ_self _)).trans HRow2.out), frozen_of_row _ _ _ _ _ ((h.block w.heap.size (Nat.lt_succ_self _)).trans HRow2.out), frozen_of_row _ _ _ _ _ ((h.block w.heap.size (Nat.lt_succ_self _)).trans HRow2.out)⟩ : W.cell? ad = some (.int .i64 a0.from_) ∧ W.cell? (ad.add 0) = some (.int .i64 a0.from_) ∧ W.cell? ⟨w.heap.size, 0, none⟩ = some (.int .i64 0) ∧ W.cell? ⟨w.heap.size, 1, none⟩ = some (.int .i64 0) ∧ W.cell? ⟨w.heap.size, 2, none⟩ = some (.string ⟨#[]⟩) ∧ W.frozen? ⟨w.heap.size, 0, none⟩ = false ∧ W.frozen? ⟨w.heap.size, 1, none⟩ = false ∧ W.frozen? ⟨w.heap.size, 2, none⟩ = false))
      have HSd := hide (HSk.out _ (Below.refl _ _))
      have HBs := hide (bufString_any (w.heap.size + 1) (w.heap.size + 1) (dataL l) wr.drew HBuf2.out hzr2)
      clear HQ HF hFin hnd HBd hlt HB HRow
      go_wp2_with fail
      obtain ⟨_, _, ⟨p0, p1, p2⟩⟩ := HSd.out
      go_region_with (with_reducible refine (HBs.out).mono ?_; rintro e w3 ⟨rfl, hb3⟩; obtain ⟨q0, q1, q2, q3, q4, q5, q6, q7⟩ := HSk.out _ hb3)
      all_goals
        have s3 := (hb3.block w.heap.size (by omega)).trans HRow2.out
        have HB3 := hide (HB2.out.trans (hb3.mono (by omega)))
        have HX := hide (row_three w3 w.heap.size _ _ _ (.int .i64 a0.from_) (.int .i64 (m : Nat)) (.string ⟨(dataL l).toArray⟩) _ s3)
        have HY := hide (((HB3.out.setCell (p := ⟨w.heap.size, 0, none⟩) (Nat.le_refl _) (.int .i64 a0.from_)).setCell (p := ⟨w.heap.size, 1, none⟩) (Nat.le_refl _) (.int .i64 (m : Nat))).setCell (p := ⟨w.heap.size, 2, none⟩) (Nat.le_refl _) (.string ⟨(dataL l).toArray⟩))
        clear hb3 s3 HB3 q0 q1 q2 q3 q4 q5 q6 q7
        go_wp2_with fail
        obtain ⟨y0, y1, y2⟩ := HX.out
        refine bodyPost_ret (v := .agg #[.int .i64 a0.from_, .int .i64 (m : Nat), .string ⟨(dataL l).toArray⟩]) (by simp [results, Try.results93, go_sem, y0, y1, y2]) rfl ⟨by rw [HOne.out, HE.out]; rfl, HY.out⟩
    | succ g0 =>
      have hii : (i : Int) < l.length := by omega
      have hi0 : (0 : Int) ≤ (i : Int) := by omega
      obtain ⟨t, ht⟩ : ∃ t, l[i]? = some t := ⟨_, List.getElem?_eq_getElem (by omega)⟩
      obtain ⟨ad, rfl, hlt, hnd⟩ := (HA.out.below HB.out (Nat.le_refl _)) i t ht
      have hd := HQ.out
      rw [manyL_drop l i t ht] at hd
      have hm := right_many (HRi.out t (List.mem_of_getElem? ht))
      have hiw : IntKind.i64.wrap ((i : Int) + 1) = ((i + 1 : Nat) : Int) := by rw [IntWalk.i64_in _ (by omega)]; rfl
      have hD := dataL_take l i t ht
      have hDs : (dataL (l.take i)).length + t.data.size ≤ 1000000 := by
        have h1 : (dataL (l.take (i + 1))).length ≤ 1000000 := by rw [dataL_len]; exact Nat.le_trans (sizeL_take _ _) hs
        rw [hD, List.length_append] at h1
        exact h1
      obtain ⟨c0, c1, c2⟩ := hnd
      obtain ⟨fr, many, data⟩ := t
      simp only at c0 c1 c2 hd hm hD hDs
      obtain ⟨q, rfl⟩ : ∃ q : Nat, many = q := ⟨many.toNat, by omega⟩
      have hmw : IntKind.i64.wrap ((m : Int) + q) = (m : Int) + q := IntWalk.i64_in _ (by omega)
      have HD := hide (show ((m + q : Nat) : Int) + manyL (l.drop (i + 1)) = V by omega)
      have hbx := (Below.refl wr.heap.size wr).alloc (Nat.le_refl _) (.cells #[.int .i64 fr, .int .i64 (q : Nat), .string data] 71)
      have HB4 := hide (HB.out.alloc HB.out.size (.cells #[.int .i64 fr, .int .i64 (q : Nat), .string data] 71))
      have HR4 := hide ((hbx.block w.heap.size (by omega)).trans HRow.out)
      have hz4 : w.heap.size + 1 ≤ (wr.alloc (.cells #[.int .i64 fr, .int .i64 (q : Nat), .string data] 71)).heap.size := by simp; omega
      have HW := hide (bufText (w.heap.size + 1) (w.heap.size + 1) _ data _ (isBuf_keep HF.out hbx) (by rw [Lib.byteCells_length]; omega) hz4)
      have HDt := hide (show Lib.byteCells (dataL (l.take i)) ++ Lib.strCells data = Lib.byteCells (dataL (l.take (i + 1))) by rw [hD]; simp [Lib.byteCells, Lib.strCells, toL])
      clear hd ht hlt HF HRow HB hD hDs hbx HQ
      go_wp2_with fail
      refine HW.out.mono ?_
      rintro e w5 ⟨rfl, h5, hb5, _⟩
      have HF5 := hide (show IsBuf (w.heap.size + 1) (w.heap.size + 1) (Lib.byteCells (dataL (l.take (i + 1)))) w5 by rw [← HDt.out]; exact .inr h5)
      have HR5 := hide ((hb5.block w.heap.size (by omega)).trans HR4.out)
      have HB5 := hide (HB4.out.trans (hb5.mono (by omega)))
      have hz5 := Nat.le_trans hz4 hb5.size
      clear HW h5 hb5 c0 c1 c2 HR4 HB4 hz4
      go_wp2_with fail
      go_roundg g0
      case rel => exact ⟨i + 1, m + q, rfl, rfl, by omega, by omega, HF5, HR5, HB5, hz5, HD⟩
      case measure => omega
end Go.Proofs.Ytobgbheodlpclaa
/-
  Tokens put together: Join.
-/
namespace Go.Proofs.Ytobgbheodlpclaa
open Go.RowKit
set_option maxRecDepth 100000

/-- Tokens put together, behind others. -/
def joinF : Nat → List Tk → List Tk → List Tk
  | 0, o, _ => o
  | f + 1, o, r => if r.length = 0 then o else joinF f (o ++ [oneL (r.take (togL r))]) (r.drop (togL r))
def joinP (l : List Tk) : List Tk := joinF (rightL l).length [] (rightL l)
theorem joinF_nil (f : Nat) (o r : List Tk) (h : r.length = 0) : joinF f o r = o := by
  cases f with
  | zero => rfl
  | succ f => unfold joinF; rw [if_pos h]
theorem togL_pos (r : List Tk) (h : r.length ≠ 0) : 1 ≤ togL r ∧ togL r ≤ r.length := by
  cases r with
  | nil => exact absurd rfl h
  | cons a r => exact togL_le a r

set_option maxHeartbeats 16000000 in
theorem joinP_any (A : Option Addr) (l : List Tk) (c : Nat) (w : World) (hA : RdT w w.heap.size A l) (hl : (l.length : Int) ≤ 1000) (hs : sizeL l ≤ 1000000) :
    Calls Try.prog 49 #[.slice A l.length c] w fun e w' => ∃ v, e = .returned v ∧ TI w 71 v (joinP l) w' := by
  obtain ⟨i0, hi, hz0, hz1, hz2⟩ := info_parts info_tk
  have HR := hide (rightL_any A l c w hA (by omega))
  have hsz : sizeL (rightL l) ≤ 1000000 := Nat.le_trans (sizeL_filter _ _) hs
  have hrl : (rightL l).length ≤ l.length := List.length_filter_le _ _
  have hrr : ∀ t ∈ rightL l, rightT t = true := fun t ht => (List.mem_filter.1 ht).2
  unfold joinP
  obtain ⟨V, hV⟩ : ∃ V, V = joinF (rightL l).length [] (rightL l) := ⟨_, rfl⟩
  have HV := hide hV.symm
  rw [← hV]
  generalize rightL l = r at HR HV hrl hsz hrr
  have HRR := hide hrr
  have HSZ := hide hsz
  clear hV hA hsz hs hrr
  go_enter Try.func49, Try.ntmps49
  go_wp2_with fail
  refine HR.out.mono ?_
  rintro e w1 ⟨v, rfl, hI⟩
  obtain ⟨D, d, rfl⟩ := ownsRow_slice hI.own
  have HRd := hide (RdT.own hI.own)
  have hcap := ownsRow_cap hI.own
  have HB1 := hide hI.below
  have HO0 := hide (World.ownsRow_nil w1 w1.heap.size 71 3)
  clear HR hI
  go_wp2_with fail
  go_loopg [3, 4] r.length (fun gk ov rv wr => ∃ (B C : Option Addr) (d k : Nat) (o q : List Tk), ov = .slice B o.length d ∧ rv = .slice C q.length k ∧ q.length ≤ gk ∧ q.length ≤ k ∧ o.length + gk ≤ r.length ∧ Hid (RdT w1 w1.heap.size C q) ∧ Hid (sizeL q ≤ 1000000 ∧ ∀ t ∈ q, rightT t = true) ∧ Hid (TI w1 71 (.slice B o.length d) o wr) ∧ Hid (joinF gk o q = V))
  case atStart => exact ⟨none, D, 0, d, [], r, rfl, rfl, Nat.le_refl _, hcap, by simp, HRd, hide ⟨HSZ.out, HRR.out⟩, hide ⟨Below.refl _ _, HO0.out⟩, HV⟩
  case round =>
    obtain ⟨B, C, d, k, o, q, rfl, rfl, hqg, hqk, hog, HQd, HQs, HO, HQ⟩ := hrel
    clear HV HO0
    by_cases hq0 : q.length = 0
    · have HE := hide (show V = o by rw [← HQ.out]; exact joinF_nil _ _ _ hq0)
      clear HQ
      go_wp2_with fail
      exact bodyPost_ret (results_tmp rfl _ _ _) rfl ⟨.slice B o.length d, rfl, by rw [HE.out]; exact ⟨HB1.out.trans (HO.out.below.mono HB1.out.size), ownsRow_lowerT HO.out.own HB1.out.size⟩⟩
    · cases gk with
      | zero => omega
      | succ g0 =>
        have hd := HQ.out
        unfold joinF at hd
        rw [if_neg hq0] at hd
        have hp := togL_pos q hq0
        have hne : q ≠ [] := fun e => hq0 (by rw [e]; rfl)
        have HT := hide (together_any C q k wr ((HQd.out.below HO.out.below (Nat.le_refl _)).mono HO.out.below.size) hne (by omega) HQs.out.1 HQs.out.2)
        obtain ⟨n, hn⟩ : ∃ n, n = togL q := ⟨_, rfl⟩
        rw [← hn] at hd hp HT
        have htn : q.take n ≠ [] := fun e => by
          have h9 : (q.take n).length = 0 := by rw [e]; rfl
          rw [List.length_take] at h9
          omega
        have HO1 := hide (fun (W : World) (h : Below w1.heap.size w1 W) => (show Calls Try.prog 93 #[.slice C n k] W fun e w' => e = .returned (.agg (oneL (q.take n)).cells) ∧ Below W.heap.size W w' from by
          have h := one_any C (q.take n) k W (((HQd.out.below h (Nat.le_refl _)).mono h.size).take n) (htn) (by rw [List.length_take]; omega) (Nat.le_trans (sizeL_take _ _) HQs.out.1) (fun t ht => HQs.out.2 t (List.mem_of_mem_take ht))
          rw [List.length_take, Nat.min_eq_left hp.2] at h
          exact h))
        have HQ2 := hide (show sizeL (q.drop n) ≤ 1000000 ∧ ∀ t ∈ q.drop n, rightT t = true from ⟨by have h := sizeL_app (q.take n) (q.drop n); rw [List.take_append_drop] at h; have := HQs.out.1; omega, fun t ht => HQs.out.2 t (List.mem_of_mem_drop ht)⟩)
        have HDr := hide (HQd.out.drop (k := n) hqk)
        clear htn
        generalize oneL (q.take n) = x at HO1 hd
        have HD := hide hd
        have hn1 : (0 : Int) ≤ n := by omega
        have hn2 : (n : Int) ≤ q.length := by omega
        have hn3 : (q.length : Int) ≤ k := by omega
        have hn4 : (n : Int) ≤ k := by omega
        have hq1 : (0 : Int) < q.length := by omega
        have hlq : (q.drop n).length = q.length - n := List.length_drop
        clear hd HQ hn HQd HQs hne
        obtain ⟨fr, many, data⟩ := x
        go_wp2_with fail
        refine HT.out.mono ?_
        rintro e w2 ⟨rfl, hb2⟩
        have HO2 := hide (HO.out.step hb2)
        clear HT hb2 HO
        go_wp2_with fail
        refine (HO1.out w2 HO2.out.below).mono ?_
        rintro e w3 ⟨rfl, hb3⟩
        have hI3 := HO2.out.step hb3
        have hO4 := hI3.own.alloc (.cells (Tk.cells ⟨fr, many, data⟩) 71)
        have hRn := RdT.one w3 ⟨fr, many, data⟩ 71
        have hB4 := hI3.below.alloc hI3.below.size (.cells (Tk.cells ⟨fr, many, data⟩) 71)
        have hsz := hB4.size
        clear HO1 hb3 HO2 hI3
        simp only [Tk.cells] at *
        go_wp2_with (at_builtin; go_loud (refine wpList_append_toks rfl _ _ 65 rfl w1.heap.size 71 i0 Try.underlying65 hi hz0 hz1 hz2 _ _ _ rfl hO4 (some ⟨w3.heap.size, 0, none⟩) _ 1 _ [⟨fr, many, data⟩] rfl rfl hRn (by unfold maxLen; omega) (by omega) hsz ?_))
        intro v5 w5 hO5 hg5
        have hB5 := hB4.grown hg5 hB4.size (fun r e => (hO4.lt r e).1)
        obtain ⟨E, g, rfl⟩ := ownsRow_slice hO5
        have hlen9 : (o ++ [(⟨fr, many, data⟩ : Tk)]).length = o.length + 1 := by simp
        have HO9 := hide (show TI w1 71 (.slice E (o ++ [(⟨fr, many, data⟩ : Tk)]).length g) (o ++ [⟨fr, many, data⟩]) w5 from ⟨hB5, by rw [cellsT_app, hlen9]; exact hO5⟩)
        rw [hlen9] at HO9
        clear hO4 hRn hB4 hO5 hg5 hB5 hsz
        by_cases hkn : k = n
        · rw [if_pos hkn] at HDr
          go_wp2_with fail
          go_roundg g0
          case rel => exact ⟨E, C, g, k - n, o ++ [⟨fr, many, data⟩], q.drop n, by rw [hlen9], by rw [hlq, show k - n = 0 by omega], by omega, by omega, by rw [hlen9]; omega, HDr, HQ2, by rw [hlen9]; exact HO9, HD⟩
          case measure => omega
        · rw [if_neg hkn] at HDr
          go_wp2_with fail
          go_roundg g0
          case rel => exact ⟨E, C.map (·.add (n * 3)), g, k - n, o ++ [⟨fr, many, data⟩], q.drop n, by rw [hlen9], by rw [hlq], by omega, by omega, by rw [hlen9]; omega, HDr, HQ2, by rw [hlen9]; exact HO9, HD⟩
          case measure => omega
end Go.Proofs.Ytobgbheodlpclaa
