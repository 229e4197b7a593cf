/-
  RollFinds's law.
-/
import Derived.Test.YtklficpogeidlabRollRefFind
namespace Go.Proofs.Ytklficpogeidlab
open Go.RowKit
set_option maxRecDepth 100000

theorem slice_mid (w : World) (ad : Addr) (L c j m : Nat) (h1 : j ≤ m) (h2 : m ≤ c) (h3 : j < c) :
    (Instr.slice 22 (.slice (some ad) L c) (some (.int .i64 j)) (some (.int .i64 m)) none).run Try.prog w = .ok (.slice (some (ad.add j)) (m - j) (c - j)) w := by
  have hc : ¬ c = j := by omega
  have a1 : (j : Int) ≤ m := by omega
  have a2 : (m : Int) ≤ c := by omega
  simp [Instr.slice, Instr.sliceBounds, Instr.sliceBound, asIntOf, run_underlying Try.underlying22, go_sem, hc, h1, h2]
theorem rsub {w : World} {B : Nat} {ad : Addr} {l : List UInt8} (h : RdB w B (some ad) l) (n j : Nat) : RdB w B (some (ad.add j)) (winAt l n j) := fun i x hx => by
  unfold winAt at hx
  rw [List.getElem?_take] at hx
  split at hx
  · rw [List.getElem?_drop] at hx
    obtain ⟨ad', e, hb, hc⟩ := h (j + i) x hx
    cases e
    refine ⟨_, rfl, by rw [add_block]; exact hb, ?_⟩
    have e : (ad.add j).add i = ad.add (j + i) := by
      unfold Addr.add
      by_cases hi : j = 0 <;> by_cases hj : i = 0 <;> simp [hi, hj, Nat.add_assoc]
    rw [e]; exact hc
  · cases hx

set_option maxHeartbeats 8000000 in
theorem rollFinds_out (A : Option Addr) (l : List UInt8) (c : Nat) (k : Int) (a b : Nat) (w : World) (hA : RdB w w.heap.size A l) (hc : l.length ≤ c) (h1 : l.length ≤ 200) (hk1 : -9223372036854775808 ≤ k) (hk2 : k ≤ 9223372036854775807) (hk : k < 1 ∨ (l.length : Int) < k) :
    Calls Try.prog 3 #[.slice A l.length c, .int .i64 k, .agg #[.int .u32 a, .int .u32 b]] w fun e w' => e = .returned (.bool true) ∧ Below w.heap.size w w' := by
  have hno : findL l k a = none := find_none l k a (by rw [winL_none l k hk]; intro x hx; simp at hx)
  have HF := hide (fun (W : World) (hW : Below w.heap.size w W) => (show Calls Try.prog 8 #[.slice A l.length c, .int .i64 k, .int .u32 a] W fun e w' => e = .returned (.tuple #[.int .i64 0, .bool false]) ∧ Below W.heap.size W w' from by
    have h := find_any A l c k a W ((hA.below hW (Nat.le_refl _)).mono hW.size) hc (by omega)
    rw [hno] at h
    exact h))
  have HR := hide (fun (W : World) => (show Calls Try.prog 9 #[.string (ofL l), .int .i64 k, .int .u32 a] W fun e w' => e = .returned (.int .i64 (-1)) ∧ w' = W from by
    have h := refFind_any l k a W (by omega) hk1 hk2
    unfold findI at h
    rw [hno] at h
    exact h))
  have KA := hide (fun (W : World) (hW : Below w.heap.size w W) => (show (convert 22 9 (.slice A l.length c)).run Try.prog W = .ok (.string (ofL l)) W from conv_any (hA.below hW (Nat.le_refl _)) c))
  have hB0 : Below w.heap.size w (w.alloc (.cells #[.int .u32 a, .int .u32 b] 24)) := (Below.refl _ w).alloc (Nat.le_refl _) _
  have r0 := World.alloc_heap_new w (Obj.cells #[.int .u32 a, .int .u32 b] 24)
  have h200 : ¬ (200 : Int) < l.length := by omega
  clear hno hA hc h1
  generalize ofL l = sl at HR KA
  go_enter Try.func3, Try.ntmps3
  go_wp2_with fail
  generalize w.alloc (.cells #[.int .u32 a, .int .u32 b] 24) = w1 at hB0 r0 ⊢
  have c0 : w1.cell? ⟨w.heap.size, 0, none⟩ = some (.int .u32 a) := cell_of_row _ _ _ _ _ _ r0
  go_wp2_with fail
  refine (HF.out w1 hB0).mono ?_
  rintro e w2 ⟨rfl, hB2⟩
  have c1 := (hB2.cell (p := ⟨w.heap.size, 0, none⟩) (cell_lt c0)).trans c0
  have hB12 := hB0.trans (hB2.mono hB0.size)
  have ka := KA.out w2 hB12
  clear c0 hB0 hB2 r0 HF KA
  go_wp2_with fail
  refine (HR.out w2).mono ?_
  rintro e w3 ⟨rfl, rfl⟩
  clear ka c1
  rcases hk with hk | hk
  · go_wp2_with fail
    refine (rollAwake_any _).mono ?_
    rintro e w4 ⟨rfl, hB4⟩
    go_wp2_with fail
    exact bodyPost_ret (results_tmp rfl _ _ _) rfl ⟨rfl, hB12.trans (hB4.mono hB12.size)⟩
  · by_cases hk0 : k < 1
    · go_wp2_with fail
      refine (rollAwake_any _).mono ?_
      rintro e w4 ⟨rfl, hB4⟩
      go_wp2_with fail
      exact bodyPost_ret (results_tmp rfl _ _ _) rfl ⟨rfl, hB12.trans (hB4.mono hB12.size)⟩
    · go_wp2_with fail
      refine (rollAwake_any _).mono ?_
      rintro e w4 ⟨rfl, hB4⟩
      go_wp2_with fail
      exact bodyPost_ret (results_tmp rfl _ _ _) rfl ⟨rfl, hB12.trans (hB4.mono hB12.size)⟩

set_option maxHeartbeats 8000000 in
theorem rollFinds_in (ad : Addr) (l : List UInt8) (c n a b : Nat) (w : World) (hA : RdB w w.heap.size (some ad) l) (hc : l.length ≤ c) (h1 : l.length ≤ 200) (n1 : 1 ≤ n) (n2 : n ≤ l.length) (hb : b < 4294967296) :
    Calls Try.prog 3 #[.slice (some ad) l.length c, .int .i64 n, .agg #[.int .u32 a, .int .u32 b]] w fun e w' => e = .returned (.bool true) ∧ Below w.heap.size w w' := by
  obtain ⟨d, hd⟩ : ∃ d, d = l.length - n + 1 := ⟨_, rfl⟩
  obtain ⟨j, hj⟩ : ∃ j, j = b % d := ⟨_, rfl⟩
  have hjd : j < d := by rw [hj]; exact Nat.mod_lt _ (by omega)
  obtain ⟨m, hm⟩ : ∃ m, m = j + n := ⟨_, rfl⟩
  obtain ⟨x, hx, hxj⟩ := find_le l n j n1 (by omega)
  have hcase : ∃ (ok : Bool) (q : Nat) (z : Int), (findL l n a).isSome = ok ∧ (findL l n a).getD 0 = q ∧ findI l n a = z ∧ ((ok = true ∧ z = q) ∨ (ok = false ∧ q = 0 ∧ z = -1)) := by
    unfold findI
    cases hf : findL l n a with
    | none => exact ⟨false, 0, -1, rfl, rfl, rfl, .inr ⟨rfl, rfl, rfl⟩⟩
    | some q => exact ⟨true, q, q, rfl, rfl, rfl, .inl ⟨rfl, rfl⟩⟩
  obtain ⟨ok, q, z, e1, e2, e3, hz⟩ := hcase
  have HF := hide (fun (W : World) (hW : Below w.heap.size w W) => (show Calls Try.prog 8 #[.slice (some ad) l.length c, .int .i64 n, .int .u32 a] W fun e w' => e = .returned (.tuple #[.int .i64 q, .bool ok]) ∧ Below W.heap.size W w' from by
    have h := find_any (some ad) l c n a W ((hA.below hW (Nat.le_refl _)).mono hW.size) hc (by omega)
    rw [e1, e2] at h
    exact h))
  have HF2 := hide (fun (W : World) (hW : Below w.heap.size w W) => (show Calls Try.prog 8 #[.slice (some ad) l.length c, .int .i64 n, .int .u32 (weakN (winAt l n j) : Nat)] W fun e w' => e = .returned (.tuple #[.int .i64 x, .bool true]) ∧ Below W.heap.size W w' from by
    have h := find_any (some ad) l c n (weakN (winAt l n j)) W ((hA.below hW (Nat.le_refl _)).mono hW.size) hc (by omega)
    rw [hx] at h
    exact h))
  have HR := hide (fun (W : World) => (show Calls Try.prog 9 #[.string (ofL l), .int .i64 n, .int .u32 a] W fun e w' => e = .returned (.int .i64 z) ∧ w' = W from by
    have h := refFind_any l n a W (by omega) (by omega) (by omega)
    rw [e3] at h
    exact h))
  have KA := hide (fun (W : World) (hW : Below w.heap.size w W) => (show (convert 22 9 (.slice (some ad) l.length c)).run Try.prog W = .ok (.string (ofL l)) W from conv_any (hA.below hW (Nat.le_refl _)) c))
  have HO := hide (fun (W : World) (hW : Below w.heap.size w W) => (show Calls Try.prog 10 #[.slice (some (ad.add j)) n (c - j)] W fun e w' => e = .returned (.int .u32 (weakN (winAt l n j) : Nat)) ∧ Below W.heap.size W w' from by
    have h := rollOf_any (some (ad.add j)) (winAt l n j) (c - j) W (rsub ((hA.below hW (Nat.le_refl _)).mono hW.size) n j) (by unfold winAt; simp; omega)
    rw [show (winAt l n j).length = n by unfold winAt; simp; omega] at h
    exact h))
  have hsm := fun W : World => slice_mid W ad l.length c j m (by omega) (by omega) (by omega)
  rw [show m - j = n by omega] at hsm
  have hB0 : Below w.heap.size w (w.alloc (.cells #[.int .u32 a, .int .u32 b] 24)) := (Below.refl _ w).alloc (Nat.le_refl _) _
  have r0 := World.alloc_heap_new w (Obj.cells #[.int .u32 a, .int .u32 b] 24)
  have h200 : ¬ (200 : Int) < l.length := by omega
  have n1i : ¬ (n : Int) < 1 := by omega
  have n2i : ¬ (l.length : Int) < n := by omega
  have hdi : (l.length : Int) - (n : Int) + 1 = (d : Int) := by omega
  have hdw : IntKind.u32.wrap (d : Int) = (d : Int) := by rw [IntKind.wrap_u32]; omega
  have hdw2 : IntKind.i64.wrap (d : Int) = (d : Int) := IntWalk.i64_in _ (by omega)
  have hd0 : ¬ (d : Int) = 0 := by omega
  have hd0' : ((d : Int) == 0) = false := by rw [beq_eq_false_iff_ne]; exact hd0
  have hmd : (b : Int).tmod (d : Int) = (j : Int) := by rw [Int.tmod_eq_emod_of_nonneg (by omega), hj]; rfl
  have hmd2 : (b : Int) % (d : Int) = (j : Int) := by rw [hj]; rfl
  have hjw : IntKind.u32.wrap (j : Int) = (j : Int) := by rw [IntKind.wrap_u32]; omega
  have hjn : (j : Int) + (n : Int) = (m : Int) := by omega
  have hmw : IntKind.i64.wrap (m : Int) = (m : Int) := IntWalk.i64_in _ (by omega)
  have hxi : (x : Int) ≤ (j : Int) := by omega
  have hnl : (n : Int) ≤ 200 := by omega
  have hll : (l.length : Int) ≤ 200 := by omega
  clear e1 e2 e3 hA hc h1 n1 n2 hx hd hj hm hxj
  generalize ofL l = sl at HR KA
  generalize weakN (winAt l n j) = wk at HF2 HO
  generalize ad.add j = adj at HO hsm
  generalize c - j = cj at HO hsm
  go_enter Try.func3, Try.ntmps3
  go_wp2_with fail
  generalize w.alloc (.cells #[.int .u32 a, .int .u32 b] 24) = w1 at hB0 r0 ⊢
  have c0 : w1.cell? ⟨w.heap.size, 0, none⟩ = some (.int .u32 a) := cell_of_row _ _ _ _ _ _ r0
  have d0 : w1.cell? ⟨w.heap.size, 1, none⟩ = some (.int .u32 b) := cell_of_row _ _ _ _ _ _ r0
  go_wp2_with fail
  refine (HF.out w1 hB0).mono ?_
  rintro e w2 ⟨rfl, hB2⟩
  have c1 := (hB2.cell (p := ⟨w.heap.size, 0, none⟩) (cell_lt c0)).trans c0
  have d1 := (hB2.cell (p := ⟨w.heap.size, 1, none⟩) (cell_lt d0)).trans d0
  have hB12 := hB0.trans (hB2.mono hB0.size)
  have ka := KA.out w2 hB12
  clear c0 d0 hB0 hB2 r0 HF KA
  go_wp2_with fail
  refine (HR.out w2).mono ?_
  rintro e w3 ⟨rfl, rfl⟩
  clear ka c1 HR
  rcases hz with ⟨rfl, rfl⟩ | ⟨rfl, rfl, rfl⟩
  all_goals
    go_wp2_with fail
    refine (HO.out w3 hB12).mono ?_
    rintro e w4 ⟨rfl, hB4⟩
    have hB14 := hB12.trans (hB4.mono hB12.size)
    go_wp2_with fail
    refine (HF2.out w4 hB14).mono ?_
    rintro e w5 ⟨rfl, hB5⟩
    have hB15 := hB14.trans (hB5.mono hB14.size)
    clear d1 hB12 hB4 hB14 hB5 HO HF2
    go_wp2_with fail
    refine (rollAwake_any _).mono ?_
    rintro e w6 ⟨rfl, hB6⟩
    have hBz := hB15.trans (hB6.mono hB15.size)
    clear hB15 hB6
    go_wp2_with fail
    exact bodyPost_ret (results_tmp rfl _ _ _) rfl ⟨rfl, hBz⟩

set_option maxHeartbeats 2000000 in
theorem rollFinds_law (A : Option Addr) (l : List UInt8) (c : Nat) (k : Int) (a b : Nat) (w : World) (hA : RdB w w.heap.size A l) (hc : l.length ≤ c) (hk1 : -9223372036854775808 ≤ k) (hk2 : k ≤ 9223372036854775807) (hb : b < 4294967296) :
    Calls Try.prog 3 #[.slice A l.length c, .int .i64 k, .agg #[.int .u32 a, .int .u32 b]] w fun e w' => e = .returned (.bool true) ∧ Below w.heap.size w w' := by
  by_cases h1 : 200 < l.length
  · have h1i : (200 : Int) < l.length := by omega
    have hB0 : Below w.heap.size w (w.alloc (.cells #[.int .u32 a, .int .u32 b] 24)) := (Below.refl _ w).alloc (Nat.le_refl _) _
    clear hA hc hk1 hk2 hb h1
    go_enter Try.func3, Try.ntmps3
    go_wp2_with fail
    refine (rollAwake_any _).mono ?_
    rintro e w9 ⟨rfl, hB9⟩
    have hBz := hB0.trans (hB9.mono hB0.size)
    go_wp2_with fail
    exact bodyPost_ret (results_tmp rfl _ _ _) rfl ⟨rfl, hBz⟩
  by_cases hk : k < 1 ∨ (l.length : Int) < k
  · exact rollFinds_out A l c k a b w hA hc (by omega) hk1 hk2 hk
  obtain ⟨n, rfl⟩ : ∃ n : Nat, k = n := ⟨k.toNat, by omega⟩
  cases A with
  | none => have := hA.of_none; subst this; simp at hk; omega
  | some ad => exact rollFinds_in ad l c n a b w hA hc (by omega) (by omega) (by omega) hb
end Go.Proofs.Ytklficpogeidlab
