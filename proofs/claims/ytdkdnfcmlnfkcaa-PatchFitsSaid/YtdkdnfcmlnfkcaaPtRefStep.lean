/-
  The reference's Step: the text that a token stands for.
-/
import Derived.Test.YtdkdnfcmlnfkcaaPtStep
namespace Go.Proofs.Ytdkdnfcmlnfkcaa
open Go.RowKit
set_option maxRecDepth 100000

theorem ofL_join (a b : List UInt8) : ofL a ++ ofL b = ofL (a ++ b) := by
  apply toL_inj
  simp [toL, ofL]
theorem ofL_toL (s : ByteArray) : ofL (toL s) = s := toL_inj rfl
theorem ofL_size (a : List UInt8) : (ofL a).size = a.length := by
  show a.toArray.size = _
  simp
theorem toL_nil {s : ByteArray} (h : s.size = 0) : toL s = [] := List.length_eq_zero_iff.1 (by show (toL s).length = 0; rw [show (toL s).length = s.size by simp [toL]]; exact h)
theorem countN_le (n : Nat) (size : Int) : countN n size ≤ n := by
  have hf := fitN_in size
  by_cases h : countN n size ≤ 0
  · omega
  · have h1 := count_lt (n : Int) (fitN size) (countN n size - 1) hf.1 (by rw [← countN_nat]; omega)
    have h2 : (countN n size - 1) * 4 ≤ (countN n size - 1) * fitN size := Int.mul_le_mul_of_nonneg_left hf.1 (by omega)
    omega
/-- A call's answer: a text, and an error's number. -/
def StepS (w0 : World) (l : List UInt8) (er : Nat) (e : Ending) (w' : World) : Prop := e = .returned (.tuple #[.string (ofL l), .int .i64 er]) ∧ Below w0.heap.size w0 w'

set_option maxHeartbeats 16000000 in
theorem refStep_any (s : ByteArray) (size : Int) (t : Tk) (w : World) (hs : s.size ≤ 1000000) :
    Calls Try.prog 61 #[.string s, .int .i64 size, .agg t.cells] w (StepS w (stepL (toL s) size t) (stepE (toL s).length size t)) := by
  have hE : stepE (toL s).length size t = if rightT t then (if t.from_ + t.many ≤ countN (toL s).length size then 0 else 6) else 1 := rfl
  have hSL : stepL (toL s) size t = if stepE (toL s).length size t = 0 then stepV (toL s) size t else [] := rfl
  have hV : stepV (toL s) size t = toL t.data ++ manyB (toL s) size t.from_ t.many.toNat := rfl
  have HRt := hide (fun W => refTRight_any t W)
  have hF := rightT_facts t
  generalize stepE (toL s).length size t = SE at hE hSL ⊢
  generalize stepL (toL s) size t = SL at hSL ⊢
  generalize stepV (toL s) size t = SV at hV hSL
  generalize rightT t = q at hE HRt hF
  obtain ⟨fr, many, data⟩ := t
  simp only [Tk.cells] at hE hV HRt hF ⊢
  have hB := (Below.refl w.heap.size w).alloc (Nat.le_refl _) (Obj.cells #[.int .i64 fr, .int .i64 many, .string data] 69)
  have hrow := World.alloc_heap_new w (Obj.cells #[.int .i64 fr, .int .i64 many, .string data] 69)
  cases q with
  | false =>
    rw [if_neg (by decide)] at hE
    rw [hE, if_neg (by decide)] at hSL
    have HX := hide (show SE = 1 ∧ SL = [] from ⟨hE, hSL⟩)
    have HB := hide hB
    clear hE hSL hV hF hB hrow
    go_enter Try.func61, Try.ntmps61
    go_wp2_with fail
    refine (HRt.out _).mono ?_
    rintro e w2 ⟨rfl, hb⟩
    have HB2 := hide (HB.out.trans (hb.mono HB.out.size))
    clear hb
    go_wp2_with fail
    refine bodyPost_ret (results_tmp2 rfl _ _ _) rfl ?_
    rw [HX.out.1, HX.out.2]
    exact ⟨rfl, HB2.out⟩
  | true =>
    obtain ⟨r1, r2, r3, r4, r5⟩ := hF rfl
    rw [if_pos rfl] at hE
    have HB := hide hB
    have HRow := hide hrow
    clear hF hB hrow
    by_cases hm : many = 0
    · obtain ⟨m1, m2, m3⟩ := r4 hm
      have hc := countN_nn (toL s).length size
      rw [if_pos (by omega)] at hE
      rw [hE, if_pos rfl, hV, hm] at hSL
      have HX := hide (show SE = 0 ∧ SL = toL data from ⟨hE, by rw [hSL]; simp [manyB]⟩)
      have E0 : (many == 0) = true := by rw [hm]; rfl
      clear hE hSL hV hc r4 r5 hm m1
      go_enter Try.func61, Try.ntmps61
      go_wp2_with fail
      refine (HRt.out _).mono ?_
      rintro e w2 ⟨rfl, hb⟩
      have hrow := (hb.block w.heap.size (by simp)).trans HRow.out
      have HB2 := hide (HB.out.trans (hb.mono HB.out.size))
      have c1 : w2.cell? ⟨w.heap.size, 1, none⟩ = some (.int .i64 many) := cell_of_row _ _ _ _ _ _ hrow
      have c2 : w2.cell? ⟨w.heap.size, 2, none⟩ = some (.string data) := cell_of_row _ _ _ _ _ _ hrow
      clear hb hrow
      go_wp2_with fail
      have HX2 := hide (show StepS w SL SE (.returned (.tuple #[.string data, .int .i64 0])) w2 from by rw [HX.out.1, HX.out.2]; exact ⟨by rw [ofL_toL]; rfl, HB2.out⟩)
      refine bodyPost_ret (results_tmp2 rfl _ _ _) rfl ?_
      exact HX2.out
    · have hds := r5 hm
      rw [toL_nil hds, List.nil_append] at hV
      obtain ⟨m, rfl⟩ : ∃ m : Nat, many = m := ⟨many.toNat, by omega⟩
      obtain ⟨f, rfl⟩ : ∃ f : Nat, fr = f := ⟨fr.toNat, by omega⟩
      rw [Int.toNat_natCast] at hV
      have E0 : ((m : Int) == 0) = false := by rw [beq_eq_false_iff_ne]; omega
      have HBl := hide (fun W => refBlocks_any s size W hs)
      have hlen := blocksL_len (toL s) size
      have hcnn := countN_nn (toL s).length size
      have HGet := hide (fun (k : Nat) (h : k < (blocksL (toL s) size).length) => (show (blocksL (toL s) size)[k]? = some (blkL (toL s) size k) by
        rw [List.getElem?_eq_getElem h]; simp [blocksL]))
      have hNc : countN (toL s).length size = ((blocksL (toL s) size).length : Nat) := by rw [hlen]; omega
      rw [hNc] at hE
      have hsb : (blocksL (toL s) size).length ≤ 1000000 := by
        rw [hlen]
        have hl : (toL s).length = s.size := by simp [toL]
        have := countN_le (toL s).length size
        omega
      generalize blocksL (toL s) size = L at HBl HGet hE hsb
      clear hlen hcnn hNc r4 r5 hds hm
      have HE := hide hE
      have HSL := hide hSL
      have HV := hide hV
      clear hE hSL hV
      go_enter Try.func61, Try.ntmps61
      go_wp2_with fail
      refine (HRt.out _).mono ?_
      rintro e w2 ⟨rfl, hb⟩
      have hrow := (hb.block w.heap.size (by simp)).trans HRow.out
      have HB2 := hide (HB.out.trans (hb.mono HB.out.size))
      have c0 : w2.cell? ⟨w.heap.size, 0, none⟩ = some (.int .i64 f) := cell_of_row _ _ _ _ _ _ hrow
      have c1 : w2.cell? ⟨w.heap.size, 1, none⟩ = some (.int .i64 m) := cell_of_row _ _ _ _ _ _ hrow
      have hlt2 : w.heap.size < w2.heap.size := (Array.getElem?_eq_some_iff.1 hrow).1
      have HRow2 := hide hrow
      clear hb hrow HRow
      go_wp2_with fail
      refine (HBl.out _).mono ?_
      rintro e w3 ⟨v, rfl, hXI⟩
      have hrow := (hXI.below.block w.heap.size hlt2).trans HRow2.out
      have c0 : w3.cell? ⟨w.heap.size, 0, none⟩ = some (.int .i64 f) := cell_of_row _ _ _ _ _ _ hrow
      have c1 : w3.cell? ⟨w.heap.size, 1, none⟩ = some (.int .i64 m) := cell_of_row _ _ _ _ _ _ hrow
      have HB3 := hide (HB2.out.trans (hXI.below.mono HB2.out.size))
      obtain ⟨C, d, rfl⟩ := ownsRow_slice hXI.own
      have HRx := hide (RdTx.own hXI.own)
      clear hrow hlt2 hXI
      go_wp2_with fail
      go_loopg [9, 10] m (fun gk ov iv wr => ∃ (j k : Nat), iv = .int .i64 k ∧ j + gk = m ∧ Hid (k = f + j) ∧ Hid (j = 0 ∨ k ≤ L.length) ∧ ov = .string (ofL (manyB (toL s) size f j)) ∧ wr = w3)
      case atStart => exact ⟨0, f, rfl, by omega, hide rfl, hide (.inl rfl), rfl, rfl⟩
      case round =>
        obtain ⟨j, k, rfl, hjg, Hk, HJ, rfl, rfl⟩ := hrel
        cases gk with
        | zero =>
          obtain rfl : j = m := by omega
          have hge : ¬ (k : Int) < (f : Int) + (j : Int) := by have := Hk.out; omega
          have HX := hide (show StepS w SL SE (.returned (.tuple #[.string (ofL (manyB (toL s) size f j)), .int .i64 0])) wr from by
            have hk := Hk.out
            have hJ := HJ.out
            have he := HE.out
            have h0 : ¬ (j : Int) = 0 := fun e => by have := E0; rw [e] at this; exact absurd this (by decide)
            rw [if_pos (by omega)] at he
            rw [HSL.out, if_pos he, he, HV.out]
            exact ⟨rfl, HB3.out⟩)
          generalize ofL (manyB (toL s) size f j) = out at HX ⊢
          go_wp2_with fail
          refine bodyPost_ret (results_tmp2 rfl _ _ _) rfl ?_
          exact HX.out
        | succ g0 =>
          have hlt : (k : Int) < (f : Int) + (m : Int) := by have := Hk.out; omega
          by_cases hkL : (L.length : Int) ≤ k
          · have HX := hide (show StepS w SL SE (.returned (.tuple #[.string ⟨#[]⟩, .int .i64 6])) wr from by
              have he := HE.out
              rw [if_neg (by omega)] at he
              rw [HSL.out, if_neg (by rw [he]; decide), he]
              exact ⟨rfl, HB3.out⟩)
            generalize ofL (manyB (toL s) size f j) = out
            go_wp2_with fail
            refine bodyPost_ret (results_tmp2 rfl _ _ _) rfl ?_
            exact HX.out
          · obtain ⟨ad, rfl, _, hcell⟩ := HRx.out k _ (HGet.out k (by omega))
            have hkl : (k : Int) < L.length := by omega
            have hk0 : (0 : Int) ≤ (k : Int) := by omega
            have hkk : k ≤ 4097 := by omega
            have HN := hide (show ofL (manyB (toL s) size f j) ++ ofL (blkL (toL s) size k) = ofL (manyB (toL s) size f (j + 1)) by
              rw [ofL_join, manyB, Hk.out]; congr 2)
            have hz : (ofL (manyB (toL s) size f j)).size + (ofL (blkL (toL s) size k)).size ≤ 1000000 := by
              have h1 := manyB_len (toL s) size f j
              have h2 := blkL_len (toL s) size k
              rw [ofL_size, ofL_size]
              omega
            generalize hO2 : ofL (manyB (toL s) size f (j + 1)) = out2 at HN
            have HO2 := hide hO2
            clear hO2
            generalize ofL (manyB (toL s) size f j) = out at HN hz
            generalize ofL (blkL (toL s) size k) = bl at HN hz hcell
            have hno : ¬ 9223372036854775807 < out.size + bl.size := by omega
            go_wp2_with fail
            go_roundg g0
            case rel => exact ⟨j + 1, k + 1, rfl, by omega, hide (by have := Hk.out; omega), hide (.inr (by omega)), by rw [HN.out, HO2.out], rfl⟩
            case measure => omega
end Go.Proofs.Ytdkdnfcmlnfkcaa
