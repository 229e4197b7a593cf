/-
  Texts that belong together: BkGet, Clone, BkAt.
-/
import Derived.Test.YtdkdnfcmlnfkcaaBkMath
import Derived.Test.YtdkdnfcmlnfkcaaAutoBytes
import Derived.Test.YtdkdnfcmlnfkcaaAutoMixMath
/-
  A sign that stands where a reader does: block.readSign.
-/
namespace Go.Proofs.Ytdkdnfcmlnfkcaa
open Go.RowKit
set_option maxRecDepth 100000

set_option maxHeartbeats 8000000 in
theorem readSign_any (b e : Nat) (l : List UInt8) (w : World) (h : IsR w b l e) (hl : l.length ≤ 1000000) :
    Calls Try.prog 111 #[.pointer (some ⟨b, 0, none⟩)] w fun en w' => en = .returned (.agg (readSg l e).1.cells) ∧ IsR w' b (readSg l e).2.1 (readSg l e).2.2 ∧ w.grownBy w' (some b) ∧ Below b w w' := by
  have hb := h.lt
  have hrow := World.alloc_heap_new w (Obj.cells #[.int .u32 0, .int .u64 0, .int .u64 0] 30)
  have hb0 : Below w.heap.size w (w.alloc (.cells #[.int .u32 0, .int .u64 0, .int .u64 0] 30)) := (Below.refl _ w).alloc (Nat.le_refl _) _
  have HI0 := hide (readNum_any b 4294967295 e l _ (h.keep (hb0.mono hb)) hl)
  have hlen := readN_len2 l e 4294967295
  have hle := readN_le l e 4294967295
  obtain ⟨K, HK⟩ : ∃ K, K = readSg l e := ⟨_, rfl⟩
  rw [← HK]
  unfold readSg at HK
  generalize readN l e 4294967295 = r at HI0 hlen hle HK
  obtain ⟨m, l1, e1⟩ := r
  simp only at HI0 hlen hle HK
  have HB0 := hide hb0
  have u1 : IntKind.u32.wrap (m : Int) = (m : Int) := by rw [IntKind.wrap_u32]; omega
  clear hb0 h
  have HT := hide (fun W (hI : IsR W b l1 e1) => readSum_any b e1 l1 W hI (by omega))
  subst HK
  simp only
  generalize readS l1 e1 = q at HT ⊢
  obtain ⟨⟨p1, p2⟩, l2, e2⟩ := q
  simp only [sumV] at HT ⊢
  go_enter Try.func111, Try.ntmps111
  go_wp2_with fail
  refine HI0.out.mono ?_
  rintro en w1 ⟨rfl, h2, h3, h4⟩
  have s1 := (h3.block w.heap.size (by simp) (fun e => by injection e; omega)).trans hrow
  have HG := hide (show w.grownBy w1 (some b) ∧ Below b w w1 from ⟨⟨h4.os.trans HB0.out.os, h4.tape.trans HB0.out.tape, h4.output.trans HB0.out.output, Nat.le_trans HB0.out.size h3.size, fun k hk hkb => (h3.block k (by simp; omega) hkb).trans (HB0.out.block k hk)⟩, (HB0.out.mono (Nat.le_of_lt hb)).trans h4⟩)
  have HT2 := hide (HT.out w1 h2)
  clear HI0 HT h2 h3 h4 HB0 hrow
  go_wp2_with fail
  refine HT2.out.mono ?_
  rintro en w2 ⟨rfl, h2, h3, h4⟩
  have s2 := (h3.block w.heap.size (Array.getElem?_eq_some_iff.1 s1).1 (fun e => by injection e; omega)).trans s1
  have HG2 := hide (show w.grownBy w2 (some b) ∧ Below b w w2 from ⟨grown_two HG.out.1 h3, HG.out.2.trans h4⟩)
  have HI2 := hide h2
  clear HT2 h2 h3 h4 HG s1
  have z0 : w2.frozen? ⟨w.heap.size, 0, none⟩ = false := frozen_of_row _ _ _ _ _ s2
  have z1 : w2.frozen? ⟨w.heap.size, 1, none⟩ = false := frozen_of_row _ _ _ _ _ s2
  have z2 : w2.frozen? ⟨w.heap.size, 2, none⟩ = false := frozen_of_row _ _ _ _ _ s2
  have k0 : w2.cell? ⟨w.heap.size, 0, none⟩ = some (.int .u32 0) := cell_of_row _ _ _ _ _ _ s2
  have k1 : w2.cell? ⟨w.heap.size, 1, none⟩ = some (.int .u64 0) := cell_of_row _ _ _ _ _ _ s2
  have k2 : w2.cell? ⟨w.heap.size, 2, none⟩ = some (.int .u64 0) := cell_of_row _ _ _ _ _ _ s2
  have HX := hide (row_sign w2 w.heap.size _ _ _ (.int .u32 (m : Nat)) (.int .u64 (p1 : Nat)) (.int .u64 (p2 : Nat)) _ s2)
  have HY := hide (three_keep HI2.out HG2.out.1 HG2.out.2 (Nat.le_refl _) hb (.int .u32 (m : Nat)) (.int .u64 (p1 : Nat)) (.int .u64 (p2 : Nat)))
  clear HG2 HI2 s2
  go_wp2_with fail
  obtain ⟨y0, y1, y2⟩ := HX.out
  refine bodyPost_ret (v := .agg #[.int .u32 (m : Nat), .int .u64 (p1 : Nat), .int .u64 (p2 : Nat)]) (by simp [results, Try.results111, go_sem, y0, y1, y2]) rfl ⟨rfl, HY.out⟩
end Go.Proofs.Ytdkdnfcmlnfkcaa
/-
  bytes.Clone: a row of the call's own.
-/
namespace Go.Proofs.Ytdkdnfcmlnfkcaa
open Go.RowKit
set_option maxRecDepth 100000

theorem cl_some (ad : Addr) (n c : Nat) (w : World) : Sem.run Try.prog (binOp BinOp.eql 22 (.slice (some ad) n c) (.slice none 0 0)) w = .ok (.bool false) w := by kernel_rfl
theorem cl_none (w : World) : Sem.run Try.prog (binOp BinOp.eql 22 (.slice none 0 0) (.slice none 0 0)) w = .ok (.bool true) w := by kernel_rfl
theorem cl_info {i : Option TypeInfo} {a b : Nat} {v : Value} (h : i.map (fun i => (i.zero, i.size, i.bytes)) = some (some v, a, b)) : ∃ i0, i = some i0 ∧ i0.zero = some v ∧ i0.size = a ∧ i0.bytes = b := by
  cases i with
  | none => cases h
  | some i => injection h with h; injection h with h1 h2; injection h2 with h2 h3; exact ⟨i, rfl, h1, h2, h3⟩
/-- A clone: no slice, or bytes in a row of the call's own. -/
def Cloned (w0 : World) (l : List UInt8) (e : Ending) (w' : World) : Prop :=
  ∃ A c, e = .returned (.slice A l.length c) ∧ w'.ownsRow w0.heap.size 5 1 (.slice A l.length c) l.length (l.map byteV) ∧ Below w0.heap.size w0 w'

set_option maxHeartbeats 1000000 in
theorem clone_own (A : Option Addr) (l : List UInt8) (c : Nat) (w : World) (hR : RdB w w.heap.size A l) (hc : Caps A l.length c) (hl : l.length ≤ 1000000) :
    Calls Try.prog 72 #[.slice A l.length c] w (Cloned w l) := by
  obtain ⟨i0, hi, hz0, hz1, hz2⟩ := cl_info info_byte
  cases A with
  | none =>
    obtain rfl := hR.of_none
    obtain rfl := hc.2 rfl
    have hrun := cl_none
    go_enter Try.func72, Try.ntmps72
    go_wp2_with fail
    refine bodyPost_ret (results_tmp rfl _ _ _) rfl ⟨none, 0, rfl, ?_, Below.refl _ _⟩
    exact World.ownsRow_nil _ _ _ _
  | some ad =>
    have hrun := cl_some ad l.length c
    have hO := World.ownsRow_lit (base := w.heap.size) (e := 5) (size := 1) w #[] 0 (Nat.le_refl _) (by decide) rfl
    have hR2 := hR.step ((Below.refl _ w).alloc (Nat.le_refl _) (.cells #[] 5))
    have hB : Below w.heap.size w (w.alloc (.cells #[] 5)) := (Below.refl _ w).alloc (Nat.le_refl _) _
    have hl2 : (l.length : Int) ≤ 1000000 := by omega
    go_enter Try.func72, Try.ntmps72
    go_wp2_with (at_builtin; refine wpList_append_bytes rfl _ _ 22 rfl w.heap.size 5 i0 Try.underlying22 hi hz0 hz1 hz2 _ 0 [] rfl hO (some ad) _ c _ l rfl rfl hR2 (by unfold maxLen; omega) (by omega) (by simp) ?_)
    intro v' w' hO3 hg3
    obtain ⟨A, cc, rfl⟩ := ownsRow_slice hO3
    have hB' := hB.grown hg3 hB.size (fun r e => (hO.lt r e).1)
    go_wp2_with fail
    refine bodyPost_ret (results_tmp rfl _ _ _) rfl ⟨A, cc, ?_, ?_, hB'⟩
    · simp
    · simpa using hO3
theorem Cloned.bytes {w0 : World} {l : List UInt8} {e : Ending} {w' : World} (h : Cloned w0 l e w') : Bytes w0 l e w' := by
  obtain ⟨A, c, h1, h2, h3⟩ := h
  exact ⟨A, c, h1, ownsRow_caps h2, RdB.own h2, h3⟩
end Go.Proofs.Ytdkdnfcmlnfkcaa
/-
  block.At: a block of bytes.
-/
namespace Go.Proofs.Ytdkdnfcmlnfkcaa
open Go.RowKit
set_option maxRecDepth 100000

/-- A block of bytes. -/
def blkL (l : List UInt8) (size k : Int) : List UInt8 := if k < 0 ∨ countN l.length size ≤ k then [] else (l.drop (k * fitN size).toNat).take (fitN size).toNat
theorem count_lt (n s k : Int) (hs : 4 ≤ s) (h : k < if n % s = 0 then n / s else n / s + 1) : k * s < n := by
  have e := Int.mul_ediv_add_emod n s
  have hm := Int.emod_nonneg n (show s ≠ 0 by omega)
  split at h
  · have h1 : (k + 1) * s ≤ (n / s) * s := Int.mul_le_mul_of_nonneg_right (by omega) (by omega)
    rw [Int.add_mul] at h1
    rw [Int.mul_comm] at e
    omega
  · have h1 : k * s ≤ (n / s) * s := Int.mul_le_mul_of_nonneg_right (by omega) (by omega)
    rw [Int.mul_comm] at e
    omega
theorem RdB.dropSome {w : World} {B k : Nat} {ad : Addr} {l : List UInt8} (h : RdB w B (some ad) l) : RdB w B (some (ad.add k)) (l.drop k) := fun j x hx => by
  rw [List.getElem?_drop] at hx
  obtain ⟨ad', e', hb, hcell⟩ := h (k + j) x hx
  cases e'
  refine ⟨_, rfl, by rw [add_block]; exact hb, ?_⟩
  have e : (ad.add k).add j = ad.add (k + j) := by
    unfold Addr.add
    by_cases hi : k = 0 <;> by_cases hj : j = 0 <;> simp [hi, hj, Nat.add_assoc]
  rw [e]; exact hcell

theorem RdB.first {w : World} {B : Nat} {A : Option Addr} {l : List UInt8} (h : RdB w B A l) (n : Nat) : RdB w B A (l.take n) := fun k x hx => by
  rw [List.getElem?_take] at hx
  split at hx
  · exact h k x hx
  · cases hx

set_option maxHeartbeats 4000000 in
theorem at_any (A : Option Addr) (l : List UInt8) (c : Nat) (size k : Int) (w : World) (hR : RdB w w.heap.size A l) (hc : Caps A l.length c) (hl : l.length ≤ 1000000) :
    Calls Try.prog 24 #[.slice A l.length c, .int .i64 size, .int .i64 k] w (Cloned w (blkL l size k)) := by
  have hf := fitN_in size
  have HF := hide (fun W => fit_any size W)
  have HC := hide (fun W => count_any l.length size W (by omega))
  have hV : blkL l size k = if k < 0 ∨ countN l.length size ≤ k then [] else (l.drop (k * fitN size).toNat).take (fitN size).toNat := rfl
  have hcn : countN l.length size = if (l.length : Int) % fitN size = 0 then (l.length : Int) / fitN size else (l.length : Int) / fitN size + 1 := by
    unfold countN; rw [show max (l.length : Int) 0 = l.length by omega]
  have hcl := hc.1
  generalize blkL l size k = V at hV ⊢
  by_cases h0 : k < 0
  · have HV := hide (show V = [] by rw [hV, if_pos (.inl h0)])
    clear hV hcn
    go_enter Try.func24, Try.ntmps24
    go_wp2_with fail
    exact bodyPost_ret (results_tmp rfl _ _ _) rfl ⟨none, 0, by rw [HV.out]; rfl, by rw [HV.out]; exact World.ownsRow_nil _ _ _ _, Below.refl _ _⟩
  · by_cases h1 : countN l.length size ≤ k
    · have HV := hide (show V = [] by rw [hV, if_pos (.inr h1)])
      clear hV hcn
      generalize countN l.length size = C at h1 HC
      go_enter Try.func24, Try.ntmps24
      go_wp2_with fail
      refine (HC.out _).mono ?_
      rintro e w1 ⟨rfl, rfl⟩
      go_wp2_with fail
      exact bodyPost_ret (results_tmp rfl _ _ _) rfl ⟨none, 0, by rw [HV.out]; rfl, by rw [HV.out]; exact World.ownsRow_nil _ _ _ _, Below.refl _ _⟩
    · rw [if_neg (by omega)] at hV
      have hlt : k * fitN size < l.length := count_lt _ _ _ hf.1 (by rw [← hcn]; omega)
      generalize countN l.length size = C at h1 HC
      generalize fitN size = s at hf HF hV hlt
      clear hcn
      have hk0 : 0 ≤ k * s := Int.mul_nonneg (by omega) (by omega)
      have hw1 : IntKind.i64.wrap (k * s) = k * s := IntWalk.i64_in _ (by omega)
      obtain ⟨m, hm⟩ : ∃ m : Nat, k * s = m := ⟨(k * s).toNat, by omega⟩
      obtain ⟨t, rfl⟩ : ∃ t : Nat, s = t := ⟨s.toNat, by omega⟩
      rw [hm] at hV hlt hw1
      have hml : m < l.length := by omega
      obtain ⟨ad, rfl⟩ : ∃ ad, A = some ad := by
        cases A with
        | some ad => exact ⟨ad, rfl⟩
        | none => exact absurd (RdB.of_none hR) (fun e => by rw [e] at hml; simp at hml)
      have hw2 : IntKind.i64.wrap ((m : Int) + t) = (m : Int) + t := IntWalk.i64_in _ (by omega)
      have hRd := hR.dropSome (k := m)
      have hVV : V = (l.drop m).take t := by rw [hV]; congr 1
      have i1 : (0 : Int) ≤ m := by omega
      have i2 : (l.length : Int) ≤ c := by omega
      have i3 : (m : Int) ≤ c := by omega
      have i4 : ¬ c = m := by omega
      have hkm : ¬ C ≤ k := h1
      have hlv : V.length = min t (l.length - m) := by rw [hVV, List.length_take, List.length_drop]
      have HCl := hide (fun (n : Nat) (hn : n = V.length) => (show Calls Try.prog 72 #[.slice (some (ad.add m)) n (c - m)] w (Cloned w V) from by
        have h := clone_own (some (ad.add m)) V (c - m) w (by rw [hVV]; exact RdB.first hRd t) ⟨by omega, fun e => by cases e⟩ (by omega)
        rw [hn]; exact h))
      by_cases h2 : (m : Int) + t ≤ l.length
      · have HC2 := hide (HCl.out t (by omega))
        have i5 : (m : Int) ≤ (m : Int) + t := by omega
        have i6 : (m : Int) + t ≤ c := by omega
        have i7 : ((m : Int) + t).toNat = m + t := by omega
        have i8 : m + t - m = t := by omega
        clear hV hVV hlv HCl hRd hc hR
        go_enter Try.func24, Try.ntmps24
        go_wp2_with fail
        refine (HC.out _).mono ?_
        rintro e w1 ⟨rfl, rfl⟩
        go_wp2_with fail
        refine (HF.out _).mono ?_
        rintro e w1 ⟨rfl, rfl⟩
        go_wp2_with fail
        refine (HF.out _).mono ?_
        rintro e w1 ⟨rfl, rfl⟩
        go_wp2_with fail
        refine HC2.out.mono ?_
        rintro e w2 ⟨D, d, rfl, hO, hb⟩
        go_wp2_with fail
        exact bodyPost_ret (results_tmp rfl _ _ _) rfl ⟨D, d, rfl, hO, hb⟩
      · have HC2 := hide (HCl.out (l.length - m) (by omega))
        have i5 : (m : Int) ≤ l.length := by omega
        clear hV hVV hlv HCl hRd hc hR
        go_enter Try.func24, Try.ntmps24
        go_wp2_with fail
        refine (HC.out _).mono ?_
        rintro e w1 ⟨rfl, rfl⟩
        go_wp2_with fail
        refine (HF.out _).mono ?_
        rintro e w1 ⟨rfl, rfl⟩
        go_wp2_with fail
        refine (HF.out _).mono ?_
        rintro e w1 ⟨rfl, rfl⟩
        go_wp2_with fail
        refine HC2.out.mono ?_
        rintro e w2 ⟨D, d, rfl, hO, hb⟩
        go_wp2_with fail
        exact bodyPost_ret (results_tmp rfl _ _ _) rfl ⟨D, d, rfl, hO, hb⟩
end Go.Proofs.Ytdkdnfcmlnfkcaa
