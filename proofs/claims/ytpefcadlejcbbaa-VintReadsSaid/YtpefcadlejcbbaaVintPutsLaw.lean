/-
  VintPuts's law: what is put is what the reference says.
-/
import Derived.Test.YtpefcadlejcbbaaVintFew
import Derived.Test.YtpefcadlejcbbaaVintAwake
namespace Go.Proofs.Ytpefcadlejcbbaa
open Go.RowKit
set_option maxRecDepth 100000

/-- The bytes of acts. -/
def actsL (cs : List Ac) : List UInt8 := cs.flatMap Ac.bytes
theorem actsL_more (cs : List Ac) (k : Nat) (h : k < cs.length) : actsL (cs.take (k + 1)) = actsL (cs.take k) ++ cs[k].bytes := by
  unfold actsL
  rw [← List.take_append_getElem h, List.flatMap_append]; simp
theorem bytes_le (a : Ac) (h : a.S.size ≤ 200) : a.bytes.length ≤ 210 := by
  unfold Ac.bytes
  have h1 := groupsL_le a.N
  have h2 := groupsL_le a.S.size
  have h3 : (toL a.S).length = a.S.size := by simp [toL]
  split
  · omega
  · split
    · rw [List.length_append]; omega
    · rw [List.length_append, wordL_len, wordL_len]; omega
theorem few_le {cs : List Ac} (h : fewL cs = true) : cs.length ≤ 40 ∧ ∀ a ∈ cs, a.S.size ≤ 200 := by
  unfold fewL at h
  rw [Bool.and_eq_true, List.all_eq_true] at h
  exact ⟨of_decide_eq_true h.1, fun a ha => of_decide_eq_true (h.2 a ha)⟩

set_option maxHeartbeats 4000000 in
theorem puts_law (A : Option Addr) (l : List UInt8) (c : Nat) (D : Option Addr) (cs : List Ac) (d : Nat) (w : World) (hR : RdB w w.heap.size A l) (hA : RdA w w.heap.size D cs) (hf : ∀ a ∈ cs, a.fits) :
    Calls Try.prog 6 #[.slice A l.length c, .slice D cs.length d] w fun e w' => e = .returned (.bool true) ∧ Below w.heap.size w w' := by
  have hF := few_any D cs d w hA
  cases hfew : fewL cs with
  | false =>
    rw [hfew] at hF
    go_enter Try.func6, Try.ntmps6
    go_wp2_with fail
    refine hF.mono ?_
    rintro e w1 ⟨rfl, rfl⟩
    go_wp2_with fail
    refine (awake_any _).mono ?_
    rintro e w9 ⟨rfl, hB9⟩
    go_wp2_with fail
    refine bodyPost_ret (results_tmp rfl _ _ _) rfl ⟨rfl, hB9⟩
  | true =>
  rw [hfew] at hF
  obtain ⟨hn, hS2⟩ := few_le hfew
  by_cases h200 : (200 : Int) < l.length
  · go_enter Try.func6, Try.ntmps6
    go_wp2_with fail
    refine hF.mono ?_
    rintro e w1 ⟨rfl, rfl⟩
    go_wp2_with fail
    refine (awake_any _).mono ?_
    rintro e w9 ⟨rfl, hB9⟩
    go_wp2_with fail
    refine bodyPost_ret (results_tmp rfl _ _ _) rfl ⟨rfl, hB9⟩
  obtain ⟨i0, hi, hz0, hz1, hz2⟩ := info_parts info_byte
  have hO : (w.alloc (.cells #[] 5)).ownsRow w.heap.size 5 1 (.slice (some ⟨w.heap.size, 0, none⟩) 0 0) 0 [] := World.ownsRow_lit w _ _ (Nat.le_refl _) (by decide) rfl
  have hB : Below w.heap.size w (w.alloc (.cells #[] 5)) := (Below.refl _ w).alloc (Nat.le_refl _) _
  have hR2 : RdB (w.alloc (.cells #[] 5)) (w.alloc (.cells #[] 5)).heap.size A l := hR.step hB
  have hll : (l.length : Int) ≤ 200 := by omega
  have hnn : (cs.length : Int) ≤ 40 := by omega
  clear h200 hfew
  go_enter Try.func6, Try.ntmps6
  go_wp2_with fail
  refine hF.mono ?_
  rintro e w1 ⟨rfl, rfl⟩
  go_wp2_with (at_builtin; refine wpList_append_bytes rfl _ _ 22 rfl w1.heap.size 5 i0 Try.underlying22 hi hz0 hz1 hz2 _ 0 [] rfl hO A _ c _ l rfl rfl hR2 (by unfold maxLen; omega) (by omega) (by simp) ?_)
  intro v' w' hO3 hg3
  obtain ⟨G, cc, rfl⟩ := ownsRow_slice hO3
  have hB' := hB.grown hg3 hB.size (fun r e => (hO.lt r e).1)
  have hR3 := hR.below hB' (Nat.le_refl _)
  have hcv := conv_any hR3 c
  have HR := hide (show RdB w' w'.heap.size G (l ++ actsL (cs.take 0)) by
    have : l ++ actsL (cs.take 0) = l := by simp [actsL]
    rw [this]; exact RdB.own hO3)
  clear hO hO3 hg3 hR2 hR3 hB hF
  go_wp2_with fail
  clear hcv
  go_loopw [5, 6, 7] (fun b want i wr => ∃ (k : Nat) (G : Option Addr) (gc : Nat), k ≤ cs.length ∧ i = .int .i64 k ∧ b = .slice G (l ++ actsL (cs.take k)).length gc ∧ want = .string (ofL (l ++ actsL (cs.take k))) ∧ Hid (RdB wr wr.heap.size G (l ++ actsL (cs.take k))) ∧ (l ++ actsL (cs.take k)).length ≤ 200 + k * 210 ∧ Below w1.heap.size w1 wr) (fun _ _ i _ => cs.length - (intOf i).toNat)
  case atStart => exact ⟨0, G, cc, Nat.zero_le _, rfl, by simp [actsL], by simp [actsL], HR, by simp [actsL]; omega, hB'⟩
  case round =>
    obtain ⟨k, G2, gc, hk, rfl, rfl, rfl, HR2, hlen, hBr⟩ := hrel
    by_cases hlt : (k : Int) < cs.length
    · have hkl : k < cs.length := by omega
      have hAr := hA.below hBr (Nat.le_refl _)
      obtain ⟨ad, rfl, hb, hc⟩ := hAr k cs[k] (List.getElem?_eq_getElem hkl)
      have hfk := hf cs[k] (List.getElem_mem hkl)
      have hSk := hS2 cs[k] (List.getElem_mem hkl)
      have hle := bytes_le cs[k] hSk
      have HM := hide (show l ++ actsL (cs.take (k + 1)) = (l ++ actsL (cs.take k)) ++ cs[k].bytes by rw [actsL_more cs k hkl, List.append_assoc])
      have HK := hide (List.getElem?_eq_getElem hkl)
      generalize cs[k] = a at HK hc hfk hSk hle HM
      generalize l ++ actsL (cs.take k) = m at HR2 hlen HM ⊢
      have q0 : wr.cell? (ad.add (k * 5)) = some (.int .i64 a.kind) := hc 0 _ rfl
      have q1 : wr.cell? ⟨(ad.add (k * 5)).block, (ad.add (k * 5)).off + 1, none⟩ = some (.int .u64 (a.N : Nat)) := hc 1 _ rfl
      have q2 : wr.cell? ⟨(ad.add (k * 5)).block, (ad.add (k * 5)).off + 2, none⟩ = some (.int .u64 (a.M : Nat)) := hc 2 _ rfl
      have q3 : wr.cell? ⟨(ad.add (k * 5)).block, (ad.add (k * 5)).off + 3, none⟩ = some (.int .i64 a.K) := hc 3 _ rfl
      have q4 : wr.cell? ⟨(ad.add (k * 5)).block, (ad.add (k * 5)).off + 4, none⟩ = some (.string a.S) := hc 4 _ rfl
      clear hc
      have hcl : a.cells = #[.int .i64 a.kind, .int .u64 (a.N : Nat), .int .u64 (a.M : Nat), .int .i64 a.K, .string a.S] := rfl
      have hput := put_any G2 m gc a wr HR2.out (by omega) hfk (by omega)
      rw [hcl] at hput
      go_wp2_with fail
      refine hput.mono ?_
      clear hput q0 q1 q2 q3 q4
      rintro e w2 ⟨G3, gd, rfl, h2, h3, h4⟩
      have hB2 := hBr.trans (h4.mono hBr.size)
      have hAr2 := hA.below hB2 (Nat.le_refl _)
      obtain ⟨ad2, e2, _, hc2⟩ := hAr2 k a HK.out
      obtain rfl : ad = ad2 := by cases e2; rfl
      have q0 : w2.cell? (ad.add (k * 5)) = some (.int .i64 a.kind) := hc2 0 _ rfl
      have q1 : w2.cell? ⟨(ad.add (k * 5)).block, (ad.add (k * 5)).off + 1, none⟩ = some (.int .u64 (a.N : Nat)) := hc2 1 _ rfl
      have q2 : w2.cell? ⟨(ad.add (k * 5)).block, (ad.add (k * 5)).off + 2, none⟩ = some (.int .u64 (a.M : Nat)) := hc2 2 _ rfl
      have q3 : w2.cell? ⟨(ad.add (k * 5)).block, (ad.add (k * 5)).off + 3, none⟩ = some (.int .i64 a.K) := hc2 3 _ rfl
      have q4 : w2.cell? ⟨(ad.add (k * 5)).block, (ad.add (k * 5)).off + 4, none⟩ = some (.string a.S) := hc2 4 _ rfl
      have HR3 := hide h3
      have hbt := bytes_any a w2 hfk (by omega)
      rw [hcl] at hbt
      have hsz : ¬ 9223372036854775807 < (ofL m).size + (ofL a.bytes).size := by rw [ofL_size, ofL_size]; omega
      clear hc2 h2 h3 h4 e2 hAr2 hcl hAr hBr
      go_wp2_with fail
      refine hbt.mono ?_
      clear hbt q0 q1 q2 q3 q4
      rintro e w3 ⟨rfl, h5⟩
      have HR4 := hide (HR3.out.step h5)
      have hB3 := hB2.trans (h5.mono hB2.size)
      clear HR3 hB2 h5
      go_wp2_with fail
      go_roundw
      case rel =>
        refine ⟨k + 1, G3, gd, hkl, rfl, ?_, ?_, ?_, ?_, hB3⟩
        · rw [HM.out, List.length_append]
        · rw [HM.out, ofL_app, show toL (ofL a.bytes) = a.bytes by simp [toL, ofL]]
        · rw [HM.out]; exact HR4
        · have e := congrArg List.length HM.out; simp only [List.length_append] at e ⊢; omega
      case measure => simp [intOf]; omega
    · obtain rfl : k = cs.length := by omega
      generalize l ++ actsL (cs.take cs.length) = m at HR2 hlen ⊢
      go_wp2_with fail
      refine (awake_any _).mono ?_
      rintro en w5 ⟨rfl, hB6'⟩
      have hB6 := hBr.trans (hB6'.mono hBr.size)
      have hcv := conv_any (HR2.out.step hB6') gc
      clear hBr hB6'
      go_wp2_with fail
      refine bodyPost_ret (results_tmp rfl _ _ _) rfl ⟨rfl, hB6⟩
end Go.Proofs.Ytpefcadlejcbbaa
