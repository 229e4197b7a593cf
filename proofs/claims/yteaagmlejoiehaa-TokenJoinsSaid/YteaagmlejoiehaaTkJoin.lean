/-
  Tokens put together: one, Join.
-/
import Derived.Test.YteaagmlejoiehaaTkOne
import Derived.Test.YteaagmlejoiehaaTkGet
import Derived.Deep.RegionWith
namespace Go.Proofs.Yteaagmlejoiehaa
open Go.RowKit
set_option maxRecDepth 100000

/-- How many blocks there are. -/
def manyL : List Tk → Int
  | [] => 0
  | t :: l => t.many + manyL l
/-- The bytes of all texts. -/
def dataL (l : List Tk) : List UInt8 := l.flatMap fun t => toL t.data
/-- The token that stands for those of a list. -/
def oneL (l : List Tk) : Tk := ⟨(l.head?.map Tk.from_).getD 0, manyL l, ofL (dataL l)⟩
theorem manyL_drop (l : List Tk) (i : Nat) (t : Tk) (h : l[i]? = some t) : manyL (l.drop i) = t.many + manyL (l.drop (i + 1)) := by
  obtain ⟨hlt, e⟩ := List.getElem?_eq_some_iff.1 h
  rw [List.drop_eq_getElem_cons hlt, e]; rfl
theorem dataL_take (l : List Tk) (i : Nat) (t : Tk) (h : l[i]? = some t) : dataL (l.take (i + 1)) = dataL (l.take i) ++ toL t.data := by
  obtain ⟨hlt, e⟩ := List.getElem?_eq_some_iff.1 h
  rw [← List.take_append_getElem hlt, e]
  simp [dataL]
theorem dataL_len : ∀ l : List Tk, (dataL l).length = sizeL l
  | [] => rfl
  | t :: l => by
    have := dataL_len l
    unfold dataL at this ⊢
    rw [List.flatMap_cons, List.length_append, this]; rfl
theorem sizeL_take (l : List Tk) (i : Nat) : sizeL (l.take i) ≤ sizeL l := by
  have := sizeL_app (l.take i) (l.drop i)
  rw [List.take_append_drop] at this
  omega
theorem right_many {t : Tk} (h : rightT t = true) : 0 ≤ t.many ∧ t.many ≤ 4097 := by
  rcases right_cases h with ⟨h1, h2, h3, h4⟩ | ⟨h1, h2, h3, h4⟩ <;> omega
theorem isBuf_keep {B b : Nat} {bs : List Value} {w w' : World} (h : IsBuf B b bs w) (hb : Below w.heap.size w w') : IsBuf B b bs w' := by
  have k : ∀ p, BufAt B b p bs w → BufAt B b p bs w' := fun p ⟨h1, v, h2, h3, h4⟩ => ⟨h1, v, (hb.block b (Array.getElem?_eq_some_iff.1 h2).1).trans h2, own_below h3 hb, h4⟩
  exact h.imp (k _) (k _)

set_option maxHeartbeats 16000000 in
theorem one_any (A : Option Addr) (l : List Tk) (c : Nat) (w : World) (hA : RdT w w.heap.size A l) (h0 : l ≠ []) (hl : (l.length : Int) ≤ 1000) (hs : sizeL l ≤ 1000000) (hr : ∀ t ∈ l, rightT t = true) :
    Calls Try.prog 74 #[.slice A l.length c] w fun e w' => e = .returned (.agg (oneL l).cells) ∧ Below w.heap.size w w' := by
  obtain ⟨a0, ha0⟩ : ∃ a, l[0]? = some a := ⟨_, List.getElem?_eq_getElem (List.length_pos_iff.2 h0)⟩
  have hl1 : (0 : Int) < l.length := by have := List.length_pos_iff.2 h0; omega
  obtain ⟨V, hV⟩ : ∃ V, V = manyL l := ⟨_, rfl⟩
  have HV := hide (show 0 + manyL (l.drop 0) = V by rw [hV]; simp)
  have HOne := hide (show oneL l = ⟨a0.from_, V, ofL (dataL l)⟩ by
    rw [hV]
    cases l with
    | nil => exact absurd rfl h0
    | cons x r => simp at ha0; subst ha0; rfl)
  have HA := hide hA
  have HRi := hide hr
  have hrow := World.alloc_heap_new w (Obj.cells #[.int .i64 0, .int .i64 0, .string ⟨#[]⟩] 71)
  have hb1 := (Below.refl w.heap.size w).alloc (Nat.le_refl _) (.cells #[.int .i64 0, .int .i64 0, .string ⟨#[]⟩] 71)
  have hfr := Lib.fresh_isBuilder 141 5 (w.alloc (.cells #[.int .i64 0, .int .i64 0, .string ⟨#[]⟩] 71))
  have hz1 : (w.alloc (.cells #[.int .i64 0, .int .i64 0, .string ⟨#[]⟩] 71)).heap.size = w.heap.size + 1 := by simp
  rw [hz1] at hfr
  have HB0 := hide (hb1.alloc hb1.size (.cells #[.pointer none, .slice none 0 0] 141))
  have HR0 := hide ((Below.heap_alloc _ (.cells #[.pointer none, .slice none 0 0] 141) _ (by rw [hz1]; omega)).trans hrow)
  have hz2 : w.heap.size + 1 ≤ ((w.alloc (.cells #[.int .i64 0, .int .i64 0, .string ⟨#[]⟩] 71)).alloc (.cells #[.pointer none, .slice none 0 0] 141)).heap.size := by simp
  have HF0 := hide hfr
  clear hV hA hr h0 hrow hb1 hfr
  go_enter Try.func74, Try.ntmps74
  go_wp2_with fail
  clear hz1
  go_loopg [3, 9] l.length (fun gk mv iv wr => ∃ (i m : Nat), mv = .int .i64 m ∧ iv = .int .i64 i ∧ i + gk = l.length ∧ m ≤ i * 4097 ∧ Hid (IsBuf (w.heap.size + 1) (w.heap.size + 1) (Lib.byteCells (dataL (l.take i))) wr) ∧ Hid (wr.heap[w.heap.size]? = some (.cells #[.int .i64 0, .int .i64 0, .string ⟨#[]⟩] 71 (0, 0))) ∧ Hid (Below w.heap.size w wr) ∧ w.heap.size + 1 ≤ wr.heap.size ∧ Hid (m + manyL (l.drop i) = V))
  case atStart => exact ⟨0, 0, rfl, rfl, by omega, by omega, HF0, HR0, HB0, hz2, HV⟩
  case round =>
    obtain ⟨i, m, rfl, rfl, hig, hmi, HF, HRow, HB, hzr, HQ⟩ := hrel
    clear HV HF0 HR0 HB0
    cases gk with
    | zero =>
      obtain rfl : i = l.length := by omega
      have HE := hide (show V = (m : Int) by rw [← HQ.out, List.drop_length]; simp [manyL])
      have hFin := HF.out
      rw [List.take_length] at hFin
      have HBd := hide hFin
      obtain ⟨ad, rfl, hlt, hnd⟩ := (HA.out.below HB.out (Nat.le_refl _)) 0 a0 ha0
      have c0 : wr.cell? ad = some (.int .i64 a0.from_) := by have h := hnd.from_; rwa [show ad.add (0 * 3) = ad from rfl] at h
      have c0' : wr.cell? (ad.add 0) = some (.int .i64 a0.from_) := c0
      have HB2 := hide HB.out.drew
      have HRow2 := hide (show wr.drew.heap[w.heap.size]? = _ from HRow.out)
      have HBuf2 := hide (isBuf_keep HBd.out (Below.refl wr.heap.size wr).drew)
      have hzr2 : w.heap.size + 1 ≤ wr.drew.heap.size := hzr
      have hn0 : (0 : Int) ≤ 0 := by decide
      have hn1 : 0 < l.length := by omega
      have hn2 : ¬ l = [] := List.length_pos_iff.1 hn1
      have hlw : ad.block < w.heap.size := hlt
      have HSk := hide (fun (W : World) (h : Below (w.heap.size + 1) wr.drew W) => (⟨(h.cell (by omega)).trans c0, (h.cell (by rw [add_block]; omega)).trans c0', (h.cell (p := ⟨_, _, none⟩) (Nat.lt_succ_self _)).trans (cell_of_row _ _ _ _ _ _ HRow2.out), (h.cell (p := ⟨_, _, none⟩) (Nat.lt_succ_self _)).trans (cell_of_row _ _ _ _ _ _ HRow2.out), (h.cell (p := ⟨_, _, none⟩) (Nat.lt_succ_self _)).trans (cell_of_row _ _ _ _ _ _ HRow2.out), frozen_of_row _ _ _ _ _ ((h.block w.heap.size (Nat.lt_succ_self _)).trans HRow2.out), frozen_of_row _ _ _ _ _ ((h.block w.heap.size (Nat.lt_succ_self _)).trans HRow2.out), frozen_of_row _ _ _ _ _ ((h.block w.heap.size (Nat.lt_succ_self _)).trans HRow2.out)⟩ : W.cell? ad = some (.int .i64 a0.from_) ∧ W.cell? (ad.add 0) = some (.int .i64 a0.from_) ∧ W.cell? ⟨w.heap.size, 0, none⟩ = some (.int .i64 0) ∧ W.cell? ⟨w.heap.size, 1, none⟩ = some (.int .i64 0) ∧ W.cell? ⟨w.heap.size, 2, none⟩ = some (.string ⟨#[]⟩) ∧ W.frozen? ⟨w.heap.size, 0, none⟩ = false ∧ W.frozen? ⟨w.heap.size, 1, none⟩ = false ∧ W.frozen? ⟨w.heap.size, 2, none⟩ = false))
      have HSd := hide (HSk.out _ (Below.refl _ _))
      have HBs := hide (bufString_any (w.heap.size + 1) (w.heap.size + 1) (dataL l) wr.drew HBuf2.out hzr2)
      clear HQ HF hFin hnd HBd hlt HB HRow
      go_wp2_with fail
      obtain ⟨_, _, ⟨p0, p1, p2⟩⟩ := HSd.out
      go_region_with (with_reducible refine (HBs.out).mono ?_; rintro e w3 ⟨rfl, hb3⟩; obtain ⟨q0, q1, q2, q3, q4, q5, q6, q7⟩ := HSk.out _ hb3)
      all_goals
        have s3 := (hb3.block w.heap.size (by omega)).trans HRow2.out
        have HB3 := hide (HB2.out.trans (hb3.mono (by omega)))
        have HX := hide (row_three w3 w.heap.size _ _ _ (.int .i64 a0.from_) (.int .i64 (m : Nat)) (.string ⟨(dataL l).toArray⟩) _ s3)
        have HY := hide (((HB3.out.setCell (p := ⟨w.heap.size, 0, none⟩) (Nat.le_refl _) (.int .i64 a0.from_)).setCell (p := ⟨w.heap.size, 1, none⟩) (Nat.le_refl _) (.int .i64 (m : Nat))).setCell (p := ⟨w.heap.size, 2, none⟩) (Nat.le_refl _) (.string ⟨(dataL l).toArray⟩))
        clear hb3 s3 HB3 q0 q1 q2 q3 q4 q5 q6 q7
        go_wp2_with fail
        obtain ⟨y0, y1, y2⟩ := HX.out
        refine bodyPost_ret (v := .agg #[.int .i64 a0.from_, .int .i64 (m : Nat), .string ⟨(dataL l).toArray⟩]) (by simp [results, Try.results74, go_sem, y0, y1, y2]) rfl ⟨by rw [HOne.out, HE.out]; rfl, HY.out⟩
    | succ g0 =>
      have hii : (i : Int) < l.length := by omega
      have hi0 : (0 : Int) ≤ (i : Int) := by omega
      obtain ⟨t, ht⟩ : ∃ t, l[i]? = some t := ⟨_, List.getElem?_eq_getElem (by omega)⟩
      obtain ⟨ad, rfl, hlt, hnd⟩ := (HA.out.below HB.out (Nat.le_refl _)) i t ht
      have hd := HQ.out
      rw [manyL_drop l i t ht] at hd
      have hm := right_many (HRi.out t (List.mem_of_getElem? ht))
      have hiw : IntKind.i64.wrap ((i : Int) + 1) = ((i + 1 : Nat) : Int) := by rw [IntWalk.i64_in _ (by omega)]; rfl
      have hD := dataL_take l i t ht
      have hDs : (dataL (l.take i)).length + t.data.size ≤ 1000000 := by
        have h1 : (dataL (l.take (i + 1))).length ≤ 1000000 := by rw [dataL_len]; exact Nat.le_trans (sizeL_take _ _) hs
        rw [hD, List.length_append] at h1
        exact h1
      obtain ⟨c0, c1, c2⟩ := hnd
      obtain ⟨fr, many, data⟩ := t
      simp only at c0 c1 c2 hd hm hD hDs
      obtain ⟨q, rfl⟩ : ∃ q : Nat, many = q := ⟨many.toNat, by omega⟩
      have hmw : IntKind.i64.wrap ((m : Int) + q) = (m : Int) + q := IntWalk.i64_in _ (by omega)
      have HD := hide (show ((m + q : Nat) : Int) + manyL (l.drop (i + 1)) = V by omega)
      have hbx := (Below.refl wr.heap.size wr).alloc (Nat.le_refl _) (.cells #[.int .i64 fr, .int .i64 (q : Nat), .string data] 71)
      have HB4 := hide (HB.out.alloc HB.out.size (.cells #[.int .i64 fr, .int .i64 (q : Nat), .string data] 71))
      have HR4 := hide ((hbx.block w.heap.size (by omega)).trans HRow.out)
      have hz4 : w.heap.size + 1 ≤ (wr.alloc (.cells #[.int .i64 fr, .int .i64 (q : Nat), .string data] 71)).heap.size := by simp; omega
      have HW := hide (bufText (w.heap.size + 1) (w.heap.size + 1) _ data _ (isBuf_keep HF.out hbx) (by rw [Lib.byteCells_length]; omega) hz4)
      have HDt := hide (show Lib.byteCells (dataL (l.take i)) ++ Lib.strCells data = Lib.byteCells (dataL (l.take (i + 1))) by rw [hD]; simp [Lib.byteCells, Lib.strCells, toL])
      clear hd ht hlt HF HRow HB hD hDs hbx HQ
      go_wp2_with fail
      refine HW.out.mono ?_
      rintro e w5 ⟨rfl, h5, hb5, _⟩
      have HF5 := hide (show IsBuf (w.heap.size + 1) (w.heap.size + 1) (Lib.byteCells (dataL (l.take (i + 1)))) w5 by rw [← HDt.out]; exact .inr h5)
      have HR5 := hide ((hb5.block w.heap.size (by omega)).trans HR4.out)
      have HB5 := hide (HB4.out.trans (hb5.mono (by omega)))
      have hz5 := Nat.le_trans hz4 hb5.size
      clear HW h5 hb5 c0 c1 c2 HR4 HB4 hz4
      go_wp2_with fail
      go_roundg g0
      case rel => exact ⟨i + 1, m + q, rfl, rfl, by omega, by omega, HF5, HR5, HB5, hz5, HD⟩
      case measure => omega
end Go.Proofs.Yteaagmlejoiehaa
