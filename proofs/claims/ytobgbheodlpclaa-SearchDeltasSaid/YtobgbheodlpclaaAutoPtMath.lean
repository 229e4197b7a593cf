/-
  Texts that belong together: PtRefStep, PtMath.
-/
import Derived.Test.YtobgbheodlpclaaPtStep
import Derived.Test.YtobgbheodlpclaaAutoPtApply
/-
  The reference's Step: the text that a token stands for.
-/
namespace Go.Proofs.Ytobgbheodlpclaa
open Go.RowKit
set_option maxRecDepth 100000

theorem ofL_join (a b : List UInt8) : ofL a ++ ofL b = ofL (a ++ b) := by
  apply toL_inj
  simp [toL, ofL]
theorem ofL_toL (s : ByteArray) : ofL (toL s) = s := toL_inj rfl
theorem toL_nil {s : ByteArray} (h : s.size = 0) : toL s = [] := List.length_eq_zero_iff.1 (by show (toL s).length = 0; rw [show (toL s).length = s.size by simp [toL]]; exact h)
/-- A call's answer: a text, and an error's number. -/
def StepS (w0 : World) (l : List UInt8) (er : Nat) (e : Ending) (w' : World) : Prop := e = .returned (.tuple #[.string (ofL l), .int .i64 er]) ∧ Below w0.heap.size w0 w'

set_option maxHeartbeats 16000000 in
theorem refStep_any (s : ByteArray) (size : Int) (t : Tk) (w : World) (hs : s.size ≤ 1000000) :
    Calls Try.prog 61 #[.string s, .int .i64 size, .agg t.cells] w (StepS w (stepL (toL s) size t) (stepE (toL s).length size t)) := by
  have hE : stepE (toL s).length size t = if rightT t then (if t.from_ + t.many ≤ countN (toL s).length size then 0 else 6) else 1 := rfl
  have hSL : stepL (toL s) size t = if stepE (toL s).length size t = 0 then stepV (toL s) size t else [] := rfl
  have hV : stepV (toL s) size t = toL t.data ++ manyB (toL s) size t.from_ t.many.toNat := rfl
  have HRt := hide (fun W => refTRight_any t W)
  have hF := rightT_facts t
  generalize stepE (toL s).length size t = SE at hE hSL ⊢
  generalize stepL (toL s) size t = SL at hSL ⊢
  generalize stepV (toL s) size t = SV at hV hSL
  generalize rightT t = q at hE HRt hF
  obtain ⟨fr, many, data⟩ := t
  simp only [Tk.cells] at hE hV HRt hF ⊢
  have hB := (Below.refl w.heap.size w).alloc (Nat.le_refl _) (Obj.cells #[.int .i64 fr, .int .i64 many, .string data] 69)
  have hrow := World.alloc_heap_new w (Obj.cells #[.int .i64 fr, .int .i64 many, .string data] 69)
  cases q with
  | false =>
    rw [if_neg (by decide)] at hE
    rw [hE, if_neg (by decide)] at hSL
    have HX := hide (show SE = 1 ∧ SL = [] from ⟨hE, hSL⟩)
    have HB := hide hB
    clear hE hSL hV hF hB hrow
    go_enter Try.func61, Try.ntmps61
    go_wp2_with fail
    refine (HRt.out _).mono ?_
    rintro e w2 ⟨rfl, hb⟩
    have HB2 := hide (HB.out.trans (hb.mono HB.out.size))
    clear hb
    go_wp2_with fail
    refine bodyPost_ret (results_tmp2 rfl _ _ _) rfl ?_
    rw [HX.out.1, HX.out.2]
    exact ⟨rfl, HB2.out⟩
  | true =>
    obtain ⟨r1, r2, r3, r4, r5⟩ := hF rfl
    rw [if_pos rfl] at hE
    have HB := hide hB
    have HRow := hide hrow
    clear hF hB hrow
    by_cases hm : many = 0
    · obtain ⟨m1, m2, m3⟩ := r4 hm
      have hc := countN_nn (toL s).length size
      rw [if_pos (by omega)] at hE
      rw [hE, if_pos rfl, hV, hm] at hSL
      have HX := hide (show SE = 0 ∧ SL = toL data from ⟨hE, by rw [hSL]; simp [manyB]⟩)
      have E0 : (many == 0) = true := by rw [hm]; rfl
      clear hE hSL hV hc r4 r5 hm m1
      go_enter Try.func61, Try.ntmps61
      go_wp2_with fail
      refine (HRt.out _).mono ?_
      rintro e w2 ⟨rfl, hb⟩
      have hrow := (hb.block w.heap.size (by simp)).trans HRow.out
      have HB2 := hide (HB.out.trans (hb.mono HB.out.size))
      have c1 : w2.cell? ⟨w.heap.size, 1, none⟩ = some (.int .i64 many) := cell_of_row _ _ _ _ _ _ hrow
      have c2 : w2.cell? ⟨w.heap.size, 2, none⟩ = some (.string data) := cell_of_row _ _ _ _ _ _ hrow
      clear hb hrow
      go_wp2_with fail
      have HX2 := hide (show StepS w SL SE (.returned (.tuple #[.string data, .int .i64 0])) w2 from by rw [HX.out.1, HX.out.2]; exact ⟨by rw [ofL_toL]; rfl, HB2.out⟩)
      refine bodyPost_ret (results_tmp2 rfl _ _ _) rfl ?_
      exact HX2.out
    · have hds := r5 hm
      rw [toL_nil hds, List.nil_append] at hV
      obtain ⟨m, rfl⟩ : ∃ m : Nat, many = m := ⟨many.toNat, by omega⟩
      obtain ⟨f, rfl⟩ : ∃ f : Nat, fr = f := ⟨fr.toNat, by omega⟩
      rw [Int.toNat_natCast] at hV
      have E0 : ((m : Int) == 0) = false := by rw [beq_eq_false_iff_ne]; omega
      have HBl := hide (fun W => refBlocks_any s size W hs)
      have hlen := blocksL_len (toL s) size
      have hcnn := countN_nn (toL s).length size
      have HGet := hide (fun (k : Nat) (h : k < (blocksL (toL s) size).length) => (show (blocksL (toL s) size)[k]? = some (blkL (toL s) size k) by
        rw [List.getElem?_eq_getElem h]; simp [blocksL]))
      have hNc : countN (toL s).length size = ((blocksL (toL s) size).length : Nat) := by rw [hlen]; omega
      rw [hNc] at hE
      have hsb : (blocksL (toL s) size).length ≤ 1000000 := by
        rw [hlen]
        have hl : (toL s).length = s.size := by simp [toL]
        have := countN_le (toL s).length size
        omega
      generalize blocksL (toL s) size = L at HBl HGet hE hsb
      clear hlen hcnn hNc r4 r5 hds hm
      have HE := hide hE
      have HSL := hide hSL
      have HV := hide hV
      clear hE hSL hV
      go_enter Try.func61, Try.ntmps61
      go_wp2_with fail
      refine (HRt.out _).mono ?_
      rintro e w2 ⟨rfl, hb⟩
      have hrow := (hb.block w.heap.size (by simp)).trans HRow.out
      have HB2 := hide (HB.out.trans (hb.mono HB.out.size))
      have c0 : w2.cell? ⟨w.heap.size, 0, none⟩ = some (.int .i64 f) := cell_of_row _ _ _ _ _ _ hrow
      have c1 : w2.cell? ⟨w.heap.size, 1, none⟩ = some (.int .i64 m) := cell_of_row _ _ _ _ _ _ hrow
      have hlt2 : w.heap.size < w2.heap.size := (Array.getElem?_eq_some_iff.1 hrow).1
      have HRow2 := hide hrow
      clear hb hrow HRow
      go_wp2_with fail
      refine (HBl.out _).mono ?_
      rintro e w3 ⟨v, rfl, hXI⟩
      have hrow := (hXI.below.block w.heap.size hlt2).trans HRow2.out
      have c0 : w3.cell? ⟨w.heap.size, 0, none⟩ = some (.int .i64 f) := cell_of_row _ _ _ _ _ _ hrow
      have c1 : w3.cell? ⟨w.heap.size, 1, none⟩ = some (.int .i64 m) := cell_of_row _ _ _ _ _ _ hrow
      have HB3 := hide (HB2.out.trans (hXI.below.mono HB2.out.size))
      obtain ⟨C, d, rfl⟩ := ownsRow_slice hXI.own
      have HRx := hide (RdTx.own hXI.own)
      clear hrow hlt2 hXI
      go_wp2_with fail
      go_loopg [9, 10] m (fun gk ov iv wr => ∃ (j k : Nat), iv = .int .i64 k ∧ j + gk = m ∧ Hid (k = f + j) ∧ Hid (j = 0 ∨ k ≤ L.length) ∧ ov = .string (ofL (manyB (toL s) size f j)) ∧ wr = w3)
      case atStart => exact ⟨0, f, rfl, by omega, hide rfl, hide (.inl rfl), rfl, rfl⟩
      case round =>
        obtain ⟨j, k, rfl, hjg, Hk, HJ, rfl, rfl⟩ := hrel
        cases gk with
        | zero =>
          obtain rfl : j = m := by omega
          have hge : ¬ (k : Int) < (f : Int) + (j : Int) := by have := Hk.out; omega
          have HX := hide (show StepS w SL SE (.returned (.tuple #[.string (ofL (manyB (toL s) size f j)), .int .i64 0])) wr from by
            have hk := Hk.out
            have hJ := HJ.out
            have he := HE.out
            have h0 : ¬ (j : Int) = 0 := fun e => by have := E0; rw [e] at this; exact absurd this (by decide)
            rw [if_pos (by omega)] at he
            rw [HSL.out, if_pos he, he, HV.out]
            exact ⟨rfl, HB3.out⟩)
          generalize ofL (manyB (toL s) size f j) = out at HX ⊢
          go_wp2_with fail
          refine bodyPost_ret (results_tmp2 rfl _ _ _) rfl ?_
          exact HX.out
        | succ g0 =>
          have hlt : (k : Int) < (f : Int) + (m : Int) := by have := Hk.out; omega
          by_cases hkL : (L.length : Int) ≤ k
          · have HX := hide (show StepS w SL SE (.returned (.tuple #[.string ⟨#[]⟩, .int .i64 6])) wr from by
              have he := HE.out
              rw [if_neg (by omega)] at he
              rw [HSL.out, if_neg (by rw [he]; decide), he]
              exact ⟨rfl, HB3.out⟩)
            generalize ofL (manyB (toL s) size f j) = out
            go_wp2_with fail
            refine bodyPost_ret (results_tmp2 rfl _ _ _) rfl ?_
            exact HX.out
          · obtain ⟨ad, rfl, _, hcell⟩ := HRx.out k _ (HGet.out k (by omega))
            have hkl : (k : Int) < L.length := by omega
            have hk0 : (0 : Int) ≤ (k : Int) := by omega
            have hkk : k ≤ 4097 := by omega
            have HN := hide (show ofL (manyB (toL s) size f j) ++ ofL (blkL (toL s) size k) = ofL (manyB (toL s) size f (j + 1)) by
              rw [ofL_join, manyB, Hk.out]; congr 2)
            have hz : (ofL (manyB (toL s) size f j)).size + (ofL (blkL (toL s) size k)).size ≤ 1000000 := by
              have h1 := manyB_len (toL s) size f j
              have h2 := blkL_len (toL s) size k
              rw [ofL_size, ofL_size]
              omega
            generalize hO2 : ofL (manyB (toL s) size f (j + 1)) = out2 at HN
            have HO2 := hide hO2
            clear hO2
            generalize ofL (manyB (toL s) size f j) = out at HN hz
            generalize ofL (blkL (toL s) size k) = bl at HN hz hcell
            have hno : ¬ 9223372036854775807 < out.size + bl.size := by omega
            go_wp2_with fail
            go_roundg g0
            case rel => exact ⟨j + 1, k + 1, rfl, by omega, hide (by have := Hk.out; omega), hide (.inr (by omega)), by rw [HN.out, HO2.out], rfl⟩
            case measure => omega
end Go.Proofs.Ytobgbheodlpclaa
/-
  All blocks, one behind the other, are the bytes.
-/
namespace Go.Proofs.Ytobgbheodlpclaa
open Go.RowKit
set_option maxRecDepth 100000

theorem manyB_app (l : List UInt8) (size f : Int) (a : Nat) : ∀ b : Nat, manyB l size f a ++ manyB l size (f + a) b = manyB l size f (a + b)
  | 0 => by simp [manyB]
  | b + 1 => by
    rw [manyB, ← List.append_assoc, manyB_app l size f a b, ← Nat.add_assoc, manyB]
    congr 2
    omega
theorem manyB_take (l : List UInt8) (size : Int) (h : Nat) (hh : fitN size = h) : ∀ j : Nat, j ≤ (countN l.length size).toNat → manyB l size 0 j = l.take (j * h)
  | 0, _ => by simp [manyB]
  | j + 1, hj => by
    rw [manyB, manyB_take l size h hh j (by omega), Int.zero_add, (blk_here l size h j hh (by omega)).2, Nat.add_mul, Nat.one_mul, List.take_add]
theorem manyB_all (l : List UInt8) (size : Int) : manyB l size 0 (countN l.length size).toNat = l := by
  have hf := fitN_in size
  obtain ⟨h, hh⟩ : ∃ h : Nat, fitN size = h := ⟨(fitN size).toNat, by omega⟩
  rw [manyB_take l size h hh _ (Nat.le_refl _)]
  apply List.take_of_length_le
  have h1 := count_ge (l.length : Int) (fitN size) hf.1
  rw [← countN_nat, hh] at h1
  have h2 := countN_nn l.length size
  have h3 : ((countN l.length size).toNat : Int) = countN l.length size := by omega
  rw [← h3] at h1
  exact_mod_cast h1
/-- A token of blocks. -/
def cpT (f : Int) (m : Nat) : Tk := ⟨f, m, ⟨#[]⟩⟩
theorem cpT_right (f m : Nat) (hm : m ≠ 0) (h : f + m ≤ 4097) : rightT (cpT f m) = true := by
  unfold rightT cpT
  have : ¬ (m : Int) = 0 := by omega
  simp only [this, if_false]
  simp
  exact ⟨by omega, rfl⟩
theorem cpT_wrong (f : Nat) : rightT (cpT f 0) = false := by
  unfold rightT cpT
  simp
  intro _ h
  exact absurd h (by decide)
theorem cpT_E (n : Nat) (size : Int) (f m : Nat) (hm : m ≠ 0) (h : f + m ≤ 4097) (hc : (f : Int) + m ≤ countN n size) : stepE n size (cpT f m) = 0 := by
  unfold stepE
  rw [cpT_right f m hm h, if_pos rfl, if_pos (by show (f : Int) + (m : Int) ≤ _; exact hc)]
theorem cpT_L (l : List UInt8) (size : Int) (f m : Nat) (hm : m ≠ 0) (h : f + m ≤ 4097) (hc : (f : Int) + m ≤ countN l.length size) : stepL l size (cpT f m) = manyB l size f m := by
  unfold stepL
  rw [if_pos (cpT_E l.length size f m hm h hc)]
  unfold stepV cpT
  simp [toL]
/-- All blocks: what a token of all of them stands for. -/
theorem all_here (l : List UInt8) (size : Int) (N : Nat) (hN : (countN l.length size).toNat = N) (h0 : N ≠ 0) (h4 : N ≤ 4097) : stepE l.length size (cpT 0 N) = 0 ∧ stepL l size (cpT 0 N) = l := by
  have hnn := countN_nn l.length size
  refine ⟨cpT_E l.length size 0 N h0 (by omega) (by omega), ?_⟩
  have := cpT_L l size 0 N h0 (by omega) (by omega)
  rw [show cpT ((0 : Nat) : Int) N = cpT 0 N from rfl] at this
  rw [this, ← hN]
  exact manyB_all l size
theorem none_here (l : List UInt8) (size : Int) : stepE l.length size (cpT 0 0) = 1 ∧ stepL l size (cpT 0 0) = [] := by
  have h := cpT_wrong 0
  have hE : stepE l.length size (cpT 0 0) = 1 := by
    unfold stepE
    rw [show cpT 0 0 = cpT ((0 : Nat) : Int) 0 from rfl, h]; rfl
  exact ⟨hE, by unfold stepL; rw [hE]; rfl⟩
/-- In two parts. -/
theorem two_parts (l : List UInt8) (size : Int) (N k : Nat) (hN : (countN l.length size).toNat = N) (hk : k + 1 < N) (h4 : N ≤ 4097) (hl : l.length ≤ 16384) :
    applyE l size [cpT 0 (k + 1), cpT ((k + 1 : Nat) : Int) (N - k - 1)] = 0 ∧ applyL l size [cpT 0 (k + 1), cpT ((k + 1 : Nat) : Int) (N - k - 1)] = l := by
  have hnn := countN_nn l.length size
  have e1 := cpT_E l.length size 0 (k + 1) (by omega) (by omega) (by omega)
  have e2 := cpT_E l.length size (k + 1) (N - k - 1) (by omega) (by omega) (by omega)
  have l1 := cpT_L l size 0 (k + 1) (by omega) (by omega) (by omega)
  have l2 := cpT_L l size (k + 1) (N - k - 1) (by omega) (by omega) (by omega)
  rw [show cpT ((0 : Nat) : Int) (k + 1) = cpT 0 (k + 1) from rfl] at e1 l1
  have happ := manyB_app l size 0 (k + 1) (N - k - 1)
  rw [Int.zero_add, show k + 1 + (N - k - 1) = N by omega, ← hN, manyB_all l size, hN] at happ
  have hlen : (manyB l size 0 (k + 1)).length + (manyB l size ((k + 1 : Nat) : Int) (N - k - 1)).length = l.length := by rw [← List.length_append, happ]
  have g : goAll l size [cpT 0 (k + 1), cpT ((k + 1 : Nat) : Int) (N - k - 1)] [] = (0, l) := by
    have s1 : goStep l size (cpT 0 (k + 1)) [] = (0, manyB l size 0 (k + 1)) := by
      unfold goStep
      rw [if_pos e1, l1, if_neg (by simp; omega)]
      rfl
    have s2 : goStep l size (cpT ((k + 1 : Nat) : Int) (N - k - 1)) (manyB l size 0 (k + 1)) = (0, l) := by
      unfold goStep
      rw [if_pos e2, l2, if_neg (by omega), happ]
    unfold goAll
    rw [s1, if_pos rfl]
    unfold goAll
    rw [s2, if_pos rfl]
    rfl
  unfold applyE applyL
  rw [g]
  exact ⟨rfl, rfl⟩
theorem last_part (l : List UInt8) (size : Int) (N : Nat) (hN : (countN l.length size).toNat = N) (h0 : N ≠ 0) (h4 : N ≤ 4097) (hl : l.length ≤ 16384) :
    applyE l size [cpT 0 N, cpT (N : Int) 0] = 1 ∧ applyL l size [cpT 0 N, cpT (N : Int) 0] = [] := by
  obtain ⟨e1, l1⟩ := all_here l size N hN h0 h4
  have e2 : stepE l.length size (cpT (N : Int) 0) = 1 := by unfold stepE; rw [cpT_wrong N]; rfl
  have g : goAll l size [cpT 0 N, cpT (N : Int) 0] [] = (1, l) := by
    have s1 : goStep l size (cpT 0 N) [] = (0, l) := by
      unfold goStep
      rw [if_pos e1, l1, if_neg (by simp; omega)]
      rfl
    have s2 : goStep l size (cpT (N : Int) 0) l = (1, l) := by
      unfold goStep
      rw [e2, if_neg (by decide)]
    unfold goAll
    rw [s1, if_pos rfl]
    unfold goAll
    rw [s2, if_neg (show ¬ ((1 : Nat) = 0) by decide)]
  unfold applyE applyL
  rw [g]
  exact ⟨rfl, rfl⟩
end Go.Proofs.Ytobgbheodlpclaa
