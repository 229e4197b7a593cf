/-
  patch.has, patch.Step: the bytes that a token stands for.
-/
import Derived.Test.YtobgbheodlpclaaBkBlocks
import Derived.Test.YtobgbheodlpclaaAutoTkTo
import Derived.Test.YtobgbheodlpclaaOwnC
import Derived.Deep.QuietTactic
import Derived.BigQuiet
namespace Go.Proofs.Ytobgbheodlpclaa
open Go.RowKit
set_option maxRecDepth 100000

theorem rightT_facts (t : Tk) (h : rightT t = true) : 0 ≤ t.from_ ∧ 0 ≤ t.many ∧ t.from_ + t.many ≤ 4097 ∧ (t.many = 0 → t.from_ = 0 ∧ 1 ≤ t.data.size ∧ t.data.size ≤ 16384) ∧ (t.many ≠ 0 → t.data.size = 0) := by
  unfold rightT at h
  split at h
  · rename_i hm
    simp only [Bool.and_eq_true, decide_eq_true_eq] at h
    exact ⟨by omega, by omega, by omega, fun _ => ⟨by omega, by omega, by omega⟩, fun e => absurd hm e⟩
  · rename_i hm
    simp only [Bool.and_eq_true, decide_eq_true_eq] at h
    exact ⟨by omega, by omega, by omega, fun e => absurd e hm, fun _ => by omega⟩
/-- So many blocks, from one on, one behind the other. -/
def manyB (l : List UInt8) (size frm : Int) : Nat → List UInt8
  | 0 => []
  | j + 1 => manyB l size frm j ++ blkL l size (frm + j)
theorem manyB_len (l : List UInt8) (size frm : Int) : ∀ j, (manyB l size frm j).length ≤ 64 * j
  | 0 => by simp [manyB]
  | j + 1 => by
    have := manyB_len l size frm j
    have := blkL_len l size (frm + j)
    rw [manyB, List.length_append]; omega
/-- What a token stands for. -/
def stepV (l : List UInt8) (size : Int) (t : Tk) : List UInt8 := toL t.data ++ manyB l size t.from_ t.many.toNat
/-- What is wrong with a token. -/
def stepE (n : Nat) (size : Int) (t : Tk) : Nat := if rightT t then (if t.from_ + t.many ≤ countN n size then 0 else 6) else 1
def stepL (l : List UInt8) (size : Int) (t : Tk) : List UInt8 := if stepE l.length size t = 0 then stepV l size t else []
theorem stepE_right {n : Nat} {size : Int} {t : Tk} (h : stepE n size t = 0) : rightT t = true := by
  unfold stepE at h
  split at h
  · assumption
  · cases h
theorem stepL_len (l : List UInt8) (size : Int) (t : Tk) : (stepL l size t).length ≤ 300000 := by
  unfold stepL
  split
  · rename_i h
    obtain ⟨h1, h2, h3, h4, h5⟩ := rightT_facts t (stepE_right h)
    have := manyB_len l size t.from_ t.many.toNat
    unfold stepV
    rw [List.length_append, show (toL t.data).length = t.data.size by simp [toL]]
    by_cases hm : t.many = 0
    · have := (h4 hm).2.2; omega
    · have := h5 hm; omega
  · simp

set_option maxHeartbeats 4000000 in
theorem has_any (n : Nat) (size : Int) (t : Tk) (w : World) (hn : n ≤ 1000000) (h1 : 0 ≤ t.from_) (h2 : 0 ≤ t.many) (h3 : t.from_ + t.many ≤ 4097) :
    Calls Try.prog 100 #[.int .i64 n, .int .i64 size, .agg t.cells] w fun e w' => e = .returned (.bool (decide (t.from_ + t.many ≤ countN n size))) ∧ Below w.heap.size w w' := by
  obtain ⟨fr, many, data⟩ := t
  simp only at h1 h2 h3
  show Calls _ _ #[_, _, .agg #[.int .i64 fr, .int .i64 many, .string data]] _ _
  have HC := hide (fun W => count_any n size W (by omega))
  generalize countN n size = C at HC ⊢
  obtain ⟨o1, ho1⟩ : ∃ o, o = (Obj.cells #[.int .i64 fr, .int .i64 many, .string data] 71) := ⟨_, rfl⟩
  have hB := (Below.refl w.heap.size w).alloc (Nat.le_refl _) o1
  have hrow := World.alloc_heap_new w o1
  go_enter Try.func100, Try.ntmps100
  go_wp2_with fail
  rw [← ho1]
  have HB := hide hB
  clear hB
  generalize w.alloc o1 = w1 at HB hrow ⊢
  rw [ho1] at hrow
  clear ho1
  have c0 : w1.cell? ⟨w.heap.size, 0, none⟩ = some (.int .i64 fr) := cell_of_row _ _ _ _ _ _ hrow
  have c1 : w1.cell? ⟨w.heap.size, 1, none⟩ = some (.int .i64 many) := cell_of_row _ _ _ _ _ _ hrow
  have hw1 : IntKind.i64.wrap (fr + many) = fr + many := IntWalk.i64_in _ (by omega)
  have hsz : w.heap.size < w1.heap.size := (Array.getElem?_eq_some_iff.1 hrow).1
  clear hrow
  go_quiet ((go_at_call 23; exact Calls.quiet_of_same (HC.out _)))
  go_wp2_with fail
  exact bodyPost_ret (results_tmp rfl _ _ _) rfl ⟨rfl, below_drewN HB.out _⟩

/-- A call's answer: bytes in a row, and an error's number. -/
def Stepped (w0 : World) (l : List UInt8) (er : Nat) (e : Ending) (w' : World) : Prop :=
  ∃ A c, e = .returned (.tuple #[.slice A l.length c, .int .i64 er]) ∧ Caps A l.length c ∧ RdB w' w'.heap.size A l ∧ Below w0.heap.size w0 w'
theorem Stepped.none (w0 w' : World) (er : Nat) (hB : Below w0.heap.size w0 w') : Stepped w0 [] er (.returned (.tuple #[.slice none 0 0, .int .i64 er])) w' :=
  ⟨_, 0, rfl, ⟨Nat.le_refl _, fun _ => rfl⟩, RdB.nil _ _ _, hB⟩
theorem OwnC.mono {w : World} {b b' : Nat} {v : Value} {l : List UInt8} (h : OwnC w b v l) (hb : b' ≤ b) : OwnC w b' v l := by
  obtain ⟨g, cap, h1, h2, h3⟩ := h
  exact ⟨g, cap, h1, by omega, h3⟩

set_option maxHeartbeats 16000000 in
theorem step_any (A : Option Addr) (l : List UInt8) (c : Nat) (size : Int) (t : Tk) (w : World) (hR : RdB w w.heap.size A l) (hc : Caps A l.length c) (hl : l.length ≤ 1000000) :
    Calls Try.prog 60 #[.slice A l.length c, .int .i64 size, .agg t.cells] w (Stepped w (stepL l size t) (stepE l.length size t)) := by
  obtain ⟨i0, hi, hz0, hz1, hz2⟩ := info_parts info_byte
  cases hr : rightT t with
  | false =>
    have HV := hide (show stepE l.length size t = 1 by unfold stepE; rw [hr]; rfl)
    have HL := hide (show stepL l size t = [] by unfold stepL; rw [HV.out]; rfl)
    have HRt := hide (fun W => show Calls Try.prog 39 #[.agg t.cells] W _ from by have h := right_any t W; rw [hr] at h; exact h)
    obtain ⟨fr, many, data⟩ := t
    have hB := hide ((Below.refl w.heap.size w).alloc (Nat.le_refl _) (Obj.cells #[.int .i64 fr, .int .i64 many, .string data] 71))
    simp only [Tk.cells] at HRt ⊢
    generalize stepE l.length size ⟨fr, many, data⟩ = SE at HV ⊢
    generalize stepL l size ⟨fr, many, data⟩ = SL at HL ⊢
    clear hr
    go_enter Try.func60, Try.ntmps60
    go_wp2_with fail
    refine (HRt.out _).mono ?_
    rintro e w1 ⟨rfl, hb⟩
    have HB2 := hide (hB.out.trans (hb.mono hB.out.size))
    clear hb
    go_wp2_with fail
    refine bodyPost_ret (results_tmp2 rfl _ _ _) rfl ?_
    rw [HV.out, HL.out]
    exact Stepped.none _ _ _ HB2.out
  | true =>
    obtain ⟨r1, r2, r3, r4, r5⟩ := rightT_facts t hr
    have HLen := hide (stepL_len l size t)
    have HRt := hide (fun W => show Calls Try.prog 39 #[.agg t.cells] W _ from by have h := right_any t W; rw [hr] at h; exact h)
    have hE : stepE l.length size t = if t.from_ + t.many ≤ countN l.length size then 0 else 6 := by unfold stepE; rw [hr]; rfl
    have hSL : stepL l size t = if stepE l.length size t = 0 then stepV l size t else [] := rfl
    have HH := hide (fun W => has_any l.length size t W hl r1 r2 r3)
    obtain ⟨fr, many, data⟩ := t
    simp only at r1 r2 r3 r4 r5 hE HH
    obtain ⟨o1, ho1⟩ : ∃ o, o = (Obj.cells #[.int .i64 fr, .int .i64 many, .string data] 71) := ⟨_, rfl⟩
    have hB := (Below.refl w.heap.size w).alloc (Nat.le_refl _) o1
    have hrow := World.alloc_heap_new w o1
    have hR1 := hR.step hB
    simp only [Tk.cells] at HRt HH ⊢
    have hds : data.size ≤ 16384 := by
      by_cases hm : many = 0
      · exact (r4 hm).2.2
      · have := r5 hm; omega
    obtain ⟨m, rfl⟩ : ∃ m : Nat, many = m := ⟨many.toNat, by omega⟩
    have hV : stepV l size ⟨fr, m, data⟩ = toL data ++ manyB l size fr m := rfl
    generalize stepE l.length size ⟨fr, m, data⟩ = SE at hE hSL ⊢
    generalize stepL l size ⟨fr, m, data⟩ = SL at hSL HLen ⊢
    generalize stepV l size ⟨fr, m, data⟩ = SV at hV hSL
    clear r4 r5 hr hR
    have hC := hc.1
    by_cases hle : fr + m ≤ countN l.length size
    · rw [if_pos hle] at hE
      rw [hE, if_pos rfl, hV] at hSL
      rw [decide_eq_true hle] at HH
      have HSL := hide hSL
      have HE := hide hE
      clear hE hSL hV hle
      go_enter Try.func60, Try.ntmps60
      go_wp2_with fail
      rw [← ho1]
      have HB := hide hB
      clear hB
      generalize w.alloc o1 = w1 at HB hrow hR1 ⊢
      rw [ho1] at hrow
      clear ho1
      have hsz : w.heap.size < w1.heap.size := (Array.getElem?_eq_some_iff.1 hrow).1
      have HRow := hide (fun (W : World) (h : Below w1.heap.size w1 W) => (h.block w.heap.size hsz).trans hrow)
      have HR1 := hide (fun (W : World) (h : Below w1.heap.size w1 W) => (hR1.below h (Nat.le_refl _)).mono h.size)
      clear hR1
      have c0 : w1.cell? ⟨w.heap.size, 0, none⟩ = some (.int .i64 fr) := cell_of_row _ _ _ _ _ _ hrow
      have c1 : w1.cell? ⟨w.heap.size, 1, none⟩ = some (.int .i64 m) := cell_of_row _ _ _ _ _ _ hrow
      have c2 : w1.cell? ⟨w.heap.size, 2, none⟩ = some (.string data) := cell_of_row _ _ _ _ _ _ hrow
      clear hrow
      go_wp2_with fail
      refine (HRt.out _).mono ?_
      rintro e w2 ⟨rfl, hb⟩
      have HB2 := hide hb
      clear hb c0 c1 c2
      have hrow := HRow.out _ HB2.out
      have c0 : w2.cell? ⟨w.heap.size, 0, none⟩ = some (.int .i64 fr) := cell_of_row _ _ _ _ _ _ hrow
      have c1 : w2.cell? ⟨w.heap.size, 1, none⟩ = some (.int .i64 m) := cell_of_row _ _ _ _ _ _ hrow
      have c2 : w2.cell? ⟨w.heap.size, 2, none⟩ = some (.string data) := cell_of_row _ _ _ _ _ _ hrow
      clear hrow
      go_wp2_with fail
      refine (HH.out _).mono ?_
      rintro e w3 ⟨rfl, hb⟩
      have HB3 := hide (HB2.out.trans (hb.mono HB2.out.size))
      clear hb c0 c1 c2
      have hrow := HRow.out _ HB3.out
      have c0 : w3.cell? ⟨w.heap.size, 0, none⟩ = some (.int .i64 fr) := cell_of_row _ _ _ _ _ _ hrow
      have c1 : w3.cell? ⟨w.heap.size, 1, none⟩ = some (.int .i64 m) := cell_of_row _ _ _ _ _ _ hrow
      have c2 : w3.cell? ⟨w.heap.size, 2, none⟩ = some (.string data) := cell_of_row _ _ _ _ _ _ hrow
      clear hrow
      have hrun := Lib.run_convert_string_bytes (P := Try.prog) w3 9 22 5 data Try.underlying9 Try.underlying22 Try.underlying5
      have hM := OwnC.made w3 data (by unfold maxLen; omega)
      have hBM := (made_bytes w3 data).2
      have hB4 := HB3.out.trans (hBM.mono HB3.out.size)
      have hrow := HRow.out _ hB4
      generalize Lib.bytesWorld w3 5 data = w4 at hrun hM hBM hB4 hrow
      generalize grownCap w3 data.size 0 5 = K at hrun hM
      have HM := hide (OwnC.mono hM HB3.out.size)
      have HB4 := hide hB4
      have d0 : w4.cell? ⟨w.heap.size, 0, none⟩ = some (.int .i64 fr) := cell_of_row _ _ _ _ _ _ hrow
      have d1 : w4.cell? ⟨w.heap.size, 1, none⟩ = some (.int .i64 m) := cell_of_row _ _ _ _ _ _ hrow
      clear hrow hM hBM hB4
      go_wp2_with fail
      clear hrun c0 c1 c2 d0 d1
      go_loopg [8, 9, 24] m (fun gk bv _ iv wr => ∃ j : Nat, iv = .int .i64 j ∧ j + gk = m ∧ Hid (Below w1.heap.size w1 wr) ∧ Hid (OwnC wr w1.heap.size bv (toL data ++ manyB l size fr j)))
      case atStart => exact ⟨0, rfl, by omega, HB4, hide (by have h := HM.out; simpa [manyB] using h)⟩
      case round =>
        obtain ⟨j, rfl, hjg, HBr, HOr⟩ := hrel
        have hrow := HRow.out _ HBr.out
        have c0 : wr.cell? ⟨w.heap.size, 0, none⟩ = some (.int .i64 fr) := cell_of_row _ _ _ _ _ _ hrow
        clear hrow
        cases gk with
        | zero =>
          obtain rfl : j = m := by omega
          obtain ⟨A', c', hv, hcap, hrd⟩ := HOr.out.bytes
          subst hv
          have HX := hide (show Stepped w SL SE (.returned (.tuple #[.slice A' (toL data ++ manyB l size fr j).length c', .int .i64 0])) wr from by
            rw [HSL.out, HE.out]
            exact ⟨A', c', rfl, hcap, hrd, HB.out.trans (HBr.out.mono HB.out.size)⟩)
          clear hcap hrd
          generalize (toL data ++ manyB l size fr j).length = N at HX ⊢
          go_wp2_with fail
          refine bodyPost_ret (results_tmp2 rfl _ _ _) rfl ?_
          exact HX.out
        | succ g0 =>
          have hjm : (j : Int) < m := by omega
          have hw1 : IntKind.i64.wrap (fr + (j : Int)) = fr + j := IntWalk.i64_in _ (by omega)
          have HAt := hide (at_any A l c size (fr + j) wr (HR1.out _ HBr.out) hc hl)
          have HMs := hide (show toL data ++ manyB l size fr (j + 1) = (toL data ++ manyB l size fr j) ++ blkL l size (fr + j) by rw [manyB, List.append_assoc])
          have HLs := hide (show (toL data ++ manyB l size fr j).length + (blkL l size (fr + j)).length ≤ 1000000 by
            have h1 := manyB_len l size fr j
            have h2 := blkL_len l size (fr + j)
            rw [List.length_append, show (toL data).length = data.size by simp [toL]]
            omega)
          generalize blkL l size (fr + j) = bl at HAt HMs HLs
          generalize toL data ++ manyB l size fr j = old at HOr HMs HLs
          go_wp2_with fail
          refine HAt.out.mono ?_
          rintro e w5 ⟨D, d, rfl, hO5, hb5⟩
          have HOr5 := hide (HOr.out.step hb5)
          have HB5 := hide (HBr.out.trans (hb5.mono HBr.out.size))
          have HD := hide (RdB.own hO5)
          clear hO5 hb5 c0
          go_wp2_with (at_builtin; refine wpList_append_ownC rfl _ _ 22 rfl w1.heap.size 5 i0 Try.underlying22 hi hz0 hz1 hz2 _ _ rfl HOr5.out D _ d _ bl rfl rfl HD.out (by unfold maxLen; have := HLs.out; omega) (by have := HLs.out; omega) ?_)
          intro v' w6 hO6 hg6
          have HO6 := hide (show OwnC w6 w1.heap.size v' (toL data ++ manyB l size fr (j + 1)) by rw [HMs.out]; exact hO6)
          have HB6 := hide (HB5.out.grown hg6 HB5.out.size (fun r e => HOr5.out.block r e))
          clear hO6 hg6
          go_wp2_with fail
          go_roundg g0
          case rel => exact ⟨j + 1, rfl, by omega, HB6, HO6⟩
          case measure => omega
    · rw [if_neg hle] at hE
      rw [hE, if_neg (by decide)] at hSL
      rw [decide_eq_false hle] at HH
      have HSL := hide hSL
      have HE := hide hE
      have HB := hide hB
      clear hE hSL hV hle hB hrow hR1 ho1
      go_enter Try.func60, Try.ntmps60
      go_wp2_with fail
      refine (HRt.out _).mono ?_
      rintro e w2 ⟨rfl, hb⟩
      have hb0 := (Below.refl w.heap.size w).alloc (Nat.le_refl _) (Obj.cells #[.int .i64 fr, .int .i64 m, .string data] 71)
      have hrow := (hb.block w.heap.size (by simp)).trans (World.alloc_heap_new w _)
      have HB2 := hide (hb0.trans (hb.mono hb0.size))
      clear hb hb0
      have c0 : w2.cell? ⟨w.heap.size, 0, none⟩ = some (.int .i64 fr) := cell_of_row _ _ _ _ _ _ hrow
      have c1 : w2.cell? ⟨w.heap.size, 1, none⟩ = some (.int .i64 m) := cell_of_row _ _ _ _ _ _ hrow
      have c2 : w2.cell? ⟨w.heap.size, 2, none⟩ = some (.string data) := cell_of_row _ _ _ _ _ _ hrow
      clear hrow
      go_wp2_with fail
      refine (HH.out _).mono ?_
      rintro e w3 ⟨rfl, hb⟩
      have HB3 := hide (HB2.out.trans (hb.mono HB2.out.size))
      clear hb c0 c1 c2
      go_wp2_with fail
      refine bodyPost_ret (results_tmp2 rfl _ _ _) rfl ?_
      rw [HE.out, HSL.out]
      exact Stepped.none _ _ _ HB3.out
end Go.Proofs.Ytobgbheodlpclaa
