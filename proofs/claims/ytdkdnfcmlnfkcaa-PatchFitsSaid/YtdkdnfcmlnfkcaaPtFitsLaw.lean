/-
  The law PatchFits: its walk.
-/
import Derived.Test.YtdkdnfcmlnfkcaaPtAwake
import Derived.Test.YtdkdnfcmlnfkcaaPtMath
import Derived.Test.YtdkdnfcmlnfkcaaPtFits
import Derived.Test.YtdkdnfcmlnfkcaaMixRefOf
import Derived.Laws.BitsAllLaws
namespace Go.Proofs.Ytdkdnfcmlnfkcaa
open Go.RowKit
set_option maxRecDepth 100000

theorem sumL_two (m : List UInt8) : Two (sumL m) := alongN_two _ _ (alongN_two _ _ ⟨by decide, by decide⟩)
theorem and_255 (n : Int) : bits .and .i64 n 255 = n % 256 := by
  have h255 : (BitVec.ofInt 64 255).toNat = 2 ^ 8 - 1 := by decide
  have key : (BitVec.ofInt 64 n &&& BitVec.ofInt 64 255).toNat = (n % ((2 ^ 64 : Nat) : Int)).toNat % 2 ^ 8 := by
    rw [BitVec.toNat_and, BitVec.toNat_ofInt, h255, Nat.and_two_pow_sub_one_eq_mod]
  show IntKind.i64.wrap ((BitVec.ofInt 64 n &&& BitVec.ofInt 64 255).toNat : Nat) = n % 256
  rw [key, IntKind.wrap_i64]
  omega
theorem xor_one (h : Nat) (hh : h < 18446744073709551616) : ∃ q : Nat, bits .xor .u64 (h : Int) 1 = (q : Int) ∧ ((h : Int) == (q : Int)) = false := by
  refine ⟨h ^^^ 1, ?_, ?_⟩
  · have := u64_xor_nat h 1 hh (by decide)
    exact this
  · rw [beq_eq_false_iff_ne]
    intro e
    have e2 : h = h ^^^ 1 := by exact_mod_cast e
    have h3 : h ^^^ h = h ^^^ (h ^^^ 1) := congrArg (fun x => h ^^^ x) e2
    rw [Nat.xor_self, ← Nat.xor_assoc, Nat.xor_self, Nat.zero_xor] at h3
    cases h3

set_option maxHeartbeats 32000000 in
theorem fits_law (A : Option Addr) (l : List UInt8) (c : Nat) (size : Int) (t0 t1 : Int) (w : World) (hR : RdB w w.heap.size A l) (hc : Caps A l.length c) (_ : -9223372036854775808 ≤ size ∧ size ≤ 9223372036854775807) (_ : (-9223372036854775808 ≤ t0 ∧ t0 ≤ 9223372036854775807) ∧ (-9223372036854775808 ≤ t1 ∧ t1 ≤ 9223372036854775807)) :
    Calls Try.prog 14 #[.slice A l.length c, .int .i64 size, .agg #[.int .i64 t0, .int .i64 t1]] w fun e w' => e = .returned (.bool true) ∧ Below w.heap.size w w' := by
  obtain ⟨o1, ho1⟩ : ∃ o, o = (Obj.cells #[.int .i64 t0, .int .i64 t1] 100) := ⟨_, rfl⟩
  have hB := (Below.refl w.heap.size w).alloc (Nat.le_refl _) o1
  have hrow := World.alloc_heap_new w o1
  have HB1 := hide hB
  by_cases h300 : (300 : Int) < l.length
  · clear hR hc hB hrow
    go_enter Try.func14, Try.ntmps14
    go_wp2_with fail
    rw [← ho1]
    refine (ptAwake_any _).mono ?_
    rintro e w2 ⟨rfl, hb⟩
    have HB2 := hide (HB1.out.trans (hb.mono HB1.out.size))
    clear hb
    go_wp2_with fail
    exact bodyPost_ret (results_tmp rfl _ _ _) rfl ⟨rfl, HB2.out⟩
  have hl : l.length ≤ 300 := by omega
  have hcl := hc.1
  have HR := hide (fun (W : World) (h : Below w.heap.size w W) => hR.step h)
  have HC := hide hc
  have HCv := hide (fun (W : World) (h : Below w.heap.size w W) => conv_any (hR.step h) c)
  have HOf := hide (fun (W : World) => refOf_any l W (by omega))
  have HF1 := hide (fun (W : World) (h : Below w.heap.size w W) => fits_yes (sumL l).1 (sumL l).2 A l c W true (hR.step h) hcl (by omega) rfl (by simp))
  have HF2 := hide (fun (W : World) => fits_no (sumL l).1 (sumL l).2 ((l.length : Int) + 1) A l c W (by omega))
  have HF3 := hide (fun (W : World) (h : Below w.heap.size w W) (q : Nat) (hq : (((sumL l).2 : Int) == (q : Int)) = false) => fits_yes (sumL l).1 q A l c W false (hR.step h) hcl (by omega) rfl hq)
  have hcv1 := HCv.out _ hB
  rw [ho1] at hcv1
  have hTwo := sumL_two l
  generalize sumL l = s at HOf HF1 HF2 HF3 hTwo
  obtain ⟨h1, h2⟩ := s
  obtain ⟨q, hxq, hxe⟩ := xor_one h2 hTwo.2
  have HXe := hide hxe
  clear hTwo hxe
  simp only [stV] at HOf HF1 HF2 HF3
  have HBl := hide (fun (W : World) => (show Calls Try.prog 17 #[.string (ofL l), .int .i64 size] W fun e w' => ∃ v, e = .returned v ∧ XI W v (blocksL l size) w' from by
    have h := refBlocks_any (ofL l) size W (by rw [ofL_size]; omega)
    rw [toL_ofL] at h
    exact h))
  generalize hsl : ofL l = sl at HCv HOf hcv1 HBl
  have HSl := hide hsl
  clear hsl
  clear hR hc hB
  go_enter Try.func14, Try.ntmps14
  go_wp2_with fail
  rw [← ho1]
  generalize w.alloc o1 = w1 at HB1 hrow ⊢
  rw [ho1] at hrow
  clear ho1 hcv1
  have hsz : w.heap.size < w1.heap.size := (Array.getElem?_eq_some_iff.1 hrow).1
  have HRow := hide (fun (W : World) (h : Below w1.heap.size w1 W) => (h.block _ hsz).trans hrow)
  clear hrow
  refine (HOf.out _).mono ?_
  rintro e w2 ⟨rfl, hb2⟩
  have HB2 := hide hb2
  clear hb2
  obtain ⟨o3, ho3⟩ : ∃ o, o = (Obj.cells #[.int .u64 (h1 : Nat), .int .u64 (h2 : Nat)] 28) := ⟨_, rfl⟩
  have hr3 := World.alloc_heap_new w2 o3
  have HB3 := hide (HB2.out.alloc HB2.out.size o3)
  go_wp2_with fail
  rw [← ho3]
  obtain ⟨n3, hn3⟩ : ∃ n, n = w2.heap.size := ⟨_, rfl⟩
  rw [← hn3] at hr3 ⊢
  have hn3' : w.heap.size < n3 := by rw [hn3]; have := HB2.out.size; omega
  clear hn3
  generalize w2.alloc o3 = w3 at HB3 hr3 ⊢
  rw [ho3] at hr3
  clear ho3
  have hsz3 : n3 < w3.heap.size := (Array.getElem?_eq_some_iff.1 hr3).1
  have HRw3 := hide (fun (W : World) (h : Below w3.heap.size w3 W) => (h.block _ hsz3).trans hr3)
  have HW3 := hide (fun (W : World) (h : Below w3.heap.size w3 W) => (show Below w.heap.size w W from HB1.out.trans ((HB3.out.trans (h.mono HB3.out.size)).mono HB1.out.size)))
  have HT3 := hide (fun (W : World) (h : Below w3.heap.size w3 W) => (show W.cell? ⟨w.heap.size, 0, none⟩ = some (.int .i64 t0) from cell_of_row _ _ 0 _ _ _ (HRow.out W (HB3.out.trans (h.mono HB3.out.size)))))
  clear hr3 HRow HB2
  refine (HF1.out _ (HW3.out _ (Below.refl _ _))).mono ?_
  rintro e w4 ⟨rfl, hb4⟩
  have HB4 := hide hb4
  have e0 : w4.cell? ⟨n3, 0, none⟩ = some (.int .u64 (h1 : Nat)) := cell_of_row _ _ _ _ _ _ (HRw3.out w4 hb4)
  have e1 : w4.cell? ⟨n3, 1, none⟩ = some (.int .u64 (h2 : Nat)) := cell_of_row _ _ _ _ _ _ (HRw3.out w4 hb4)
  clear hb4 HF1
  go_wp2_with fail
  refine (HF2.out _).mono ?_
  rintro e w5 ⟨rfl, hb5⟩
  have hB5 := HB4.out.trans (hb5.mono HB4.out.size)
  have HB5 := hide hB5
  clear e0 e1
  have e0 : w5.cell? ⟨n3, 0, none⟩ = some (.int .u64 (h1 : Nat)) := cell_of_row _ _ _ _ _ _ (HRw3.out w5 hB5)
  have e1 : w5.cell? ⟨n3, 1, none⟩ = some (.int .u64 (h2 : Nat)) := cell_of_row _ _ _ _ _ _ (HRw3.out w5 hB5)
  clear hb5 hB5 HF2 HB4
  go_wp2_with fail
  refine (HF3.out w5 (HW3.out _ HB5.out) q HXe.out).mono ?_
  rintro e w6 ⟨rfl, hb6⟩
  have hB6 := HB5.out.trans (hb6.mono HB5.out.size)
  have HB6 := hide hB6
  have hcv6 := HCv.out _ (HW3.out _ hB6)
  clear hb6 hB6 HF3 HXe hxq e0 e1 HB5
  go_wp2_with fail
  refine (HBl.out _).mono ?_
  rintro e w7 ⟨v, rfl, hXI⟩
  obtain ⟨N, hN⟩ : ∃ N, (blocksL l size).length = N := ⟨_, rfl⟩
  have hNc : (countN l.length size).toNat = N := by rw [← blocksL_len]; exact hN
  have hNl : N ≤ 300 := by have := countN_le l.length size; omega
  have hown := hXI.own
  rw [hN] at hown
  obtain ⟨D, d, rfl⟩ := ownsRow_slice hown
  have HB7 := hide (HB6.out.trans (hXI.below.mono HB6.out.size))
  have HCp := hide (fun (W : World) => copy_any 0 (N : Int) W)
  simp only [Tk.cells] at HCp
  have HSt := hide (fun (W : World) (h : Below w3.heap.size w3 W) => step_any A l c size (cpT 0 N) W (HR.out W (HW3.out W h)) HC.out (by omega))
  clear hXI hown hN hcv6 HBl HB6
  by_cases hN0 : N = 0
  · subst hN0
    obtain ⟨z1, z2⟩ := none_here l size
    rw [z1, z2] at HSt
    have HS2 := hide (fun (W : World) (h : Below w3.heap.size w3 W) => (show Calls Try.prog 60 #[.slice A l.length c, .int .i64 size, .agg #[.int .i64 0, .int .i64 ((0 : Nat) : Int), .string ⟨#[]⟩]] W (Stepped W [] 1) from HSt.out W h))
    clear z1 z2 HSt
    go_wp2_with fail
    refine (HCp.out _).mono ?_
    rintro e w8 ⟨rfl, hb8⟩
    have HB8 := hide (HB7.out.trans (hb8.mono HB7.out.size))
    clear hb8
    go_wp2_with fail
    refine (HS2.out _ HB8.out).mono ?_
    rintro e w9 ⟨E, g, rfl, _, _, hb9⟩
    have HB9 := hide (HB8.out.trans (hb9.mono HB8.out.size))
    clear hb9
    go_wp2_with fail
    refine (ptAwake_any _).mono ?_
    rintro e w10 ⟨rfl, hb10⟩
    have HB10 := hide (HW3.out _ (HB9.out.trans (hb10.mono HB9.out.size)))
    clear hb10
    go_wp2_with fail
    exact bodyPost_ret (results_tmp rfl _ _ _) rfl ⟨rfl, HB10.out⟩
  · obtain ⟨z1, z2⟩ := all_here l size N hNc hN0 (by omega)
    rw [z1, z2] at HSt
    have HS2 := hide (fun (W : World) (h : Below w3.heap.size w3 W) => (show Calls Try.prog 60 #[.slice A l.length c, .int .i64 size, .agg #[.int .i64 0, .int .i64 (N : Int), .string ⟨#[]⟩]] W (Stepped W l 0) from HSt.out W h))
    obtain ⟨r, hr⟩ : ∃ r : Nat, bits .and .i64 t0 255 = (r : Int) := ⟨(t0 % 256).toNat, by rw [and_255]; omega⟩
    obtain ⟨k, hk⟩ : ∃ k : Nat, (r : Int).tmod (N : Int) = (k : Int) := ⟨r % N, by rw [Int.tmod_eq_emod_of_nonneg (by omega)]; omega⟩
    have hkN : k < N := by
      rw [Int.tmod_eq_emod_of_nonneg (by omega)] at hk
      have := Int.emod_lt_of_pos (r : Int) (show (0 : Int) < N by omega)
      omega
    have HTwo := hide (fun (h : k + 1 < N) => two_parts l size N k hNc h (by omega) (by omega))
    have HLast := hide (last_part l size N hNc hN0 (by omega) (by omega))
    have hN1 : ((N : Int) == 0) = false := by rw [beq_eq_false_iff_ne]; omega
    obtain ⟨m, hm⟩ : ∃ m : Nat, (N : Int) - (k : Int) - 1 = (m : Int) := ⟨N - k - 1, by omega⟩
    have hmN : N - k - 1 = m := by omega
    clear z1 z2 HSt
    go_wp2_with fail
    refine (HCp.out _).mono ?_
    rintro e w8 ⟨rfl, hb8⟩
    have HB8 := hide (HB7.out.trans (hb8.mono HB7.out.size))
    clear hb8
    go_wp2_with fail
    refine (HS2.out _ HB8.out).mono ?_
    rintro e w9 ⟨E, g, rfl, _, hRE, hb9⟩
    have HB9 := hide (HB8.out.trans (hb9.mono HB8.out.size))
    have HE := hide (fun (W : World) (h : Below w9.heap.size w9 W) => (show (convert 22 9 (.slice E l.length g)).run Try.prog W = .ok (.string sl) W from by rw [← HSl.out]; exact conv_any (hRE.step h) g))
    have q0 := HT3.out _ HB9.out
    clear hb9 hRE
    have HC1 := hide (fun (W : World) => copy_any 0 ((k : Int) + 1) W)
    have HC2 := hide (fun (W : World) => copy_any ((k : Int) + 1) (m : Int) W)
    simp only [Tk.cells] at HC1 HC2
    have HSub := hide hmN
    clear hmN
    go_wp2_with fail
    refine (HC1.out _).mono ?_
    rintro e w10 ⟨rfl, hb10⟩
    have HB10 := hide hb10
    clear hb10 q0
    go_wp2_with fail
    refine (HC2.out _).mono ?_
    rintro e w11 ⟨rfl, hb11⟩
    have HB11 := hide (HB10.out.trans (hb11.mono HB10.out.size))
    clear hb11 HB10
    have hB12 := (Below.refl w11.heap.size w11).alloc (Nat.le_refl _) (Obj.cells (cellsT [cpT 0 (k + 1), cpT ((k + 1 : Nat) : Int) m]).toArray 71)
    have HB12 := hide (HB11.out.trans (hB12.mono HB11.out.size))
    have HAp := hide (apply_any A l c size (some ⟨w11.heap.size, 0, none⟩) [cpT 0 (k + 1), cpT ((k + 1 : Nat) : Int) m] 2 _ (HR.out _ (HW3.out _ (HB9.out.trans (HB12.out.mono HB9.out.size)))) HC.out (by omega) (RdT.laid w11 [cpT 0 (k + 1), cpT ((k + 1 : Nat) : Int) m] 71) (by simp))
    have HB13 := hide (fun (W : World) (h : Below (w11.alloc (Obj.cells (cellsT [cpT 0 (k + 1), cpT ((k + 1 : Nat) : Int) m]).toArray 71)).heap.size (w11.alloc (Obj.cells (cellsT [cpT 0 (k + 1), cpT ((k + 1 : Nat) : Int) m]).toArray 71)) W) => (show Below w9.heap.size w9 W from HB12.out.trans (h.mono HB12.out.size)))
    have HAw := hide (fun (W : World) => ptAwake_any W)
    clear hB12 HB11 HB12 HCp HC1 HC2 HS2
    by_cases hlast : k + 1 = N
    · have hm0 : m = 0 := by have := HSub.out; omega
      subst hm0
      have hL := HLast.out
      rw [← hlast] at hL
      rw [hL.1, hL.2] at HAp
      have hkI : (k : Int) + 1 = (N : Int) := by omega
      have hkb : ((k : Int) + 1 == (N : Int)) = true := by rw [beq_iff_eq]; omega
      clear hL HTwo HLast hlast hkI
      go_wp2_with fail
      refine HAp.out.mono ?_
      rintro e w13 ⟨G, h, rfl, _, _, hb13⟩
      have HB14 := hide (HB13.out _ hb13)
      clear hb13 HAp
      go_wp2_with fail
      refine (HAw.out _).mono ?_
      rintro e w14 ⟨rfl, hb14⟩
      have hB15 := HB14.out.trans (hb14.mono HB14.out.size)
      have hce := HE.out _ hB15
      have hco := HCv.out _ (HW3.out _ (HB9.out.trans (hB15.mono HB9.out.size)))
      have HB15 := hide (HW3.out _ (HB9.out.trans (hB15.mono HB9.out.size)))
      clear hb14 hB15
      go_wp2_with fail
      exact bodyPost_ret (results_tmp rfl _ _ _) rfl ⟨rfl, HB15.out⟩
    · have hL := HTwo.out (by omega)
      rw [HSub.out] at hL
      rw [hL.1, hL.2] at HAp
      have hkb : ((k : Int) + 1 == (N : Int)) = false := by rw [beq_eq_false_iff_ne]; omega
      clear hL HTwo HLast hlast
      go_wp2_with fail
      refine HAp.out.mono ?_
      rintro e w13 ⟨G, h, rfl, _, hRG, hb13⟩
      have hB14 := HB13.out _ hb13
      have HB14 := hide hB14
      have HG := hide (fun (W : World) (hw : Below w13.heap.size w13 W) => (show (convert 22 9 (.slice G l.length h)).run Try.prog W = .ok (.string sl) W from by rw [← HSl.out]; exact conv_any (hRG.step hw) h))
      clear hb13 hB14 hRG HAp
      go_wp2_with fail
      refine (HAw.out _).mono ?_
      rintro e w14 ⟨rfl, hb14⟩
      have hB15 := HB14.out.trans (hb14.mono HB14.out.size)
      have hce := HE.out _ hB15
      have hcg := HG.out _ hb14
      have hco := HCv.out _ (HW3.out _ (HB9.out.trans (hB15.mono HB9.out.size)))
      have HB15 := hide (HW3.out _ (HB9.out.trans (hB15.mono HB9.out.size)))
      clear hb14 hB15
      go_wp2_with fail
      exact bodyPost_ret (results_tmp rfl _ _ _) rfl ⟨rfl, HB15.out⟩
end Go.Proofs.Ytdkdnfcmlnfkcaa
