/-
  The reference's Of.
-/
import Derived.Test.YtobgbheodlpclaaAutoMixRef
import Derived.Test.YtobgbheodlpclaaAutoMixHash
namespace Go.Proofs.Ytobgbheodlpclaa
open Go.RowKit
set_option maxRecDepth 100000

theorem wordN_take (l : List UInt8) (k : Nat) (x : UInt8) (h : l[k]? = some x) : wordN (l.take (k + 1)) = wordN (l.take k) + 256 ^ k * x.toNat := by
  induction l generalizing k with
  | nil => simp at h
  | cons y l ih =>
    cases k with
    | zero => simp at h; subst h; simp [wordN]
    | succ k =>
      have h' : l[k]? = some x := by simpa using h
      show y.toNat + 256 * wordN (l.take (k + 1)) = y.toNat + 256 * wordN (l.take k) + 256 ^ (k + 1) * x.toNat
      rw [ih k h', Nat.mul_add, Nat.pow_succ, Nat.mul_comm (256 ^ k) 256, Nat.mul_assoc, Nat.add_assoc]

set_option maxHeartbeats 4000000 in
theorem refOf_any (m : List UInt8) (w : World) (hm : m.length ≤ 1000000) :
    Calls Try.prog 64 #[.string (ofL m)] w fun e w' => e = .returned (stV (sumL m)) ∧ Below w.heap.size w w' := by
  have hB : Below w.heap.size w (w.alloc (.cells #[.int .u64 0, .int .u64 0] 28)) := (Below.refl _ w).alloc (Nat.le_refl _) _
  have r1 := World.alloc_heap_new w (Obj.cells #[.int .u64 0, .int .u64 0] 28)
  have hC := fun W => refStart_any W
  have hst : startN = atN 0 m := rfl
  rw [hst] at hC
  have HC := hide hC
  clear hC hst
  simp only [show stV (atN 0 m) = .agg #[.int .u64 ((atN 0 m).1 : Nat), .int .u64 ((atN 0 m).2 : Nat)] from rfl] at HC
  have hsz := ofL_size m
  have hmi : (m.length : Int) ≤ 1000000 := by omega
  go_enter Try.func64, Try.ntmps64
  go_wp2_with fail
  refine (HC.out _).mono ?_
  rintro e w2 ⟨rfl, hB2⟩
  have hB3 := hB.trans (hB2.mono hB.size)
  have s1 := (hB2.block w.heap.size (Array.getElem?_eq_some_iff.1 r1).1).trans r1
  have hlt := (Array.getElem?_eq_some_iff.1 s1).1
  clear hB hB2 r1 HC
  go_wp2_with fail
  have s2 : (w2.alloc (.cells #[.int .u64 ((atN 0 m).1 : Nat), .int .u64 ((atN 0 m).2 : Nat)] 28)).heap[w.heap.size]? = some (.cells #[.int .u64 0, .int .u64 0] 28 (0, 0)) := by rw [Below.heap_alloc _ _ _ hlt]; exact s1
  have t2 := World.alloc_heap_new w2 (Obj.cells #[.int .u64 ((atN 0 m).1 : Nat), .int .u64 ((atN 0 m).2 : Nat)] 28)
  have hB4 := hB3.alloc hB3.size (.cells #[.int .u64 ((atN 0 m).1 : Nat), .int .u64 ((atN 0 m).2 : Nat)] 28)
  clear hB3 s1
  generalize w2.alloc (.cells #[.int .u64 ((atN 0 m).1 : Nat), .int .u64 ((atN 0 m).2 : Nat)] 28) = w3 at s2 t2 hB4 ⊢
  generalize w2.heap.size = g at t2 hlt ⊢
  have HG := hide hlt
  clear hlt
  go_loopw [4, 5, 6, 7] (fun a x y z wr => ∃ i t : Nat, Hid (t = 8 * i) ∧ Hid (i ≤ (m.length + 7) / 8) ∧ a = .int .i64 t ∧ wr.heap[g]? = some (.cells #[.int .u64 ((atN i m).1 : Nat), .int .u64 ((atN i m).2 : Nat)] 28 (0, 0)) ∧ wr.heap[w.heap.size]? = some (.cells #[.int .u64 0, .int .u64 0] 28 (0, 0)) ∧ Below w.heap.size w wr) (fun a _ _ _ _ => m.length + 8 - (intOf a).toNat)
  case atStart => exact ⟨0, 0, hide rfl, hide (Nat.zero_le _), rfl, t2, s2, hB4⟩
  case round =>
    clear s2 t2 hB4
    obtain ⟨i, t, HT, HI, rfl, t2, s2, hB⟩ := hrel
    by_cases hlt : t < m.length
    · have hti : (t : Int) < m.length := by omega
      clear hlt
      go_wp2_with fail
      go_loopw [5, 6, 7] (fun x y z wr2 => ∃ k z0 : Nat, Hid (z0 = t + k) ∧ Hid (k ≤ 8) ∧ Hid (z0 ≤ m.length) ∧ z = .int .i64 z0 ∧ x = .int .u64 (wordN ((m.drop t).take k) : Nat) ∧ y = .int .u64 (256 ^ k % 18446744073709551616 : Nat) ∧ wr2 = wr) (fun _ _ z _ => m.length - (intOf z).toNat)
      case atStart => exact ⟨0, t, hide rfl, hide (by decide), hide (by omega), rfl, rfl, rfl, rfl⟩
      case round =>
        obtain ⟨k, z0, HZ, HK, HZ2, rfl, rfl, rfl, rfl⟩ := hrel
        by_cases hk8 : k = 8
        · have q0 : (t : Int) + 8 ≤ z0 := by have := HZ.out; omega
          have q1 := trivial
          have HW := hide (show (m.drop t).take k = (m.drop (8 * i)).take 8 by
            rw [← HT.out, hk8])
          have HA := hide (show atN (i + 1) m = roundN (atN i m) (wordN ((m.drop t).take k)) by rw [atN_succ, HW.out])
          have hsm := wordN_small ((m.drop t).take k) (by rw [List.length_take]; have := HK.out; omega)
          have HR := hide (show ∀ W, Calls Try.prog 102 #[.agg #[.int .u64 ((atN i m).1 : Nat), .int .u64 ((atN i m).2 : Nat)], .int .u64 (wordN ((m.drop t).take k) : Nat)] W fun e w' => e = .returned (.agg #[.int .u64 ((atN (i + 1) m).1 : Nat), .int .u64 ((atN (i + 1) m).2 : Nat)]) ∧ Below W.heap.size W w' from fun W => by
            have h := refRound_any (atN i m) (wordN ((m.drop t).take k)) W (atN_two _ _) hsm
            rw [← HA.out] at h
            exact h)
          clear HW HA hsm
          generalize wordN ((m.drop t).take k) = wd at HR ⊢
          have c0 : wr.cell? ⟨g, 0, none⟩ = some (.int .u64 ((atN i m).1 : Nat)) := cell_of_row _ _ _ _ _ _ t2
          have c1 : wr.cell? ⟨g, 1, none⟩ = some (.int .u64 ((atN i m).2 : Nat)) := cell_of_row _ _ _ _ _ _ t2
          generalize atN i m = qa at c0 c1 HR t2 ⊢
          obtain ⟨qb, hqb⟩ : ∃ qb, qb = atN (i + 1) m := ⟨_, rfl⟩
          rw [← hqb] at HR
          have HQ := hide hqb
          clear hqb
          go_wp2_with fail
          refine (HR.out _).mono ?_
          rintro e w5 ⟨rfl, hB5⟩
          have u2 := (hB5.block g (Array.getElem?_eq_some_iff.1 t2).1).trans t2
          have v2 := (hB5.block w.heap.size (Array.getElem?_eq_some_iff.1 s2).1).trans s2
          have hB6 := hB.trans (hB5.mono hB.size)
          have d0 : w5.cell? ⟨g, 0, none⟩ = some (.int .u64 (qa.1 : Nat)) := cell_of_row _ _ _ _ _ _ u2
          have d1 : w5.cell? ⟨g, 1, none⟩ = some (.int .u64 (qa.2 : Nat)) := cell_of_row _ _ _ _ _ _ u2
          have y0 : w5.frozen? ⟨g, 0, none⟩ = false := frozen_of_row _ _ _ _ _ u2
          have y1 : w5.frozen? ⟨g, 1, none⟩ = false := frozen_of_row _ _ _ _ _ u2
          have t3 := heap_setCell_same _ g 1 _ _ (.int .u64 (qb.2 : Nat)) (heap_setCell_same w5 g 0 _ _ (.int .u64 (qb.1 : Nat)) u2)
          have s3 : ((w5.setCell ⟨g, 0, none⟩ (.int .u64 (qb.1 : Nat))).setCell ⟨g, 1, none⟩ (.int .u64 (qb.2 : Nat))).heap[w.heap.size]? = some (.cells #[.int .u64 0, .int .u64 0] 28 (0, 0)) := by
            rw [Below.heap_setCell _ _ _ _ (by have := HG.out; simp; omega), Below.heap_setCell _ _ _ _ (by have := HG.out; simp; omega)]; exact v2
          have hB7 := (hB6.setCell (p := ⟨g, 0, none⟩) (Nat.le_of_lt HG.out) (.int .u64 (qb.1 : Nat))).setCell (p := ⟨g, 1, none⟩) (Nat.le_of_lt HG.out) (.int .u64 (qb.2 : Nat))
          clear hB5 hB6 u2 v2 t2 s2 c0 c1
          go_wp2_with fail
          go_roundw
          case rel => exact ⟨i + 1, t + 8, hide (by have := HT.out; omega), hide (by have := HT.out; omega), rfl, by rw [← HQ.out]; exact t3, s3, hB7⟩
          case measure => simp [intOf]; omega
        · by_cases hzl : z0 = m.length
          · have q0 : (z0 : Int) < t + 8 := by have := HZ.out; have := HK.out; omega
            have q1 : ((ofL m).size : Int) ≤ z0 := by omega
            have HZL := hide hzl
            clear hzl hk8
            have q2 := trivial
            have HW := hide (show (m.drop t).take k = (m.drop (8 * i)).take 8 by
              rw [← HT.out, List.take_of_length_le (by rw [List.length_drop]; have := HZ.out; have := HZL.out; omega), List.take_of_length_le (by rw [List.length_drop]; have := HZ.out; have := HZL.out; have := HK.out; omega)])
            have HA := hide (show atN (i + 1) m = roundN (atN i m) (wordN ((m.drop t).take k)) by rw [atN_succ, HW.out])
            have hsm := wordN_small ((m.drop t).take k) (by rw [List.length_take]; have := HK.out; omega)
            have HR := hide (show ∀ W, Calls Try.prog 102 #[.agg #[.int .u64 ((atN i m).1 : Nat), .int .u64 ((atN i m).2 : Nat)], .int .u64 (wordN ((m.drop t).take k) : Nat)] W fun e w' => e = .returned (.agg #[.int .u64 ((atN (i + 1) m).1 : Nat), .int .u64 ((atN (i + 1) m).2 : Nat)]) ∧ Below W.heap.size W w' from fun W => by
              have h := refRound_any (atN i m) (wordN ((m.drop t).take k)) W (atN_two _ _) hsm
              rw [← HA.out] at h
              exact h)
            clear HW HA hsm
            generalize wordN ((m.drop t).take k) = wd at HR ⊢
            have c0 : wr.cell? ⟨g, 0, none⟩ = some (.int .u64 ((atN i m).1 : Nat)) := cell_of_row _ _ _ _ _ _ t2
            have c1 : wr.cell? ⟨g, 1, none⟩ = some (.int .u64 ((atN i m).2 : Nat)) := cell_of_row _ _ _ _ _ _ t2
            generalize atN i m = qa at c0 c1 HR t2 ⊢
            obtain ⟨qb, hqb⟩ : ∃ qb, qb = atN (i + 1) m := ⟨_, rfl⟩
            rw [← hqb] at HR
            have HQ := hide hqb
            clear hqb
            go_wp2_with fail
            refine (HR.out _).mono ?_
            rintro e w5 ⟨rfl, hB5⟩
            have u2 := (hB5.block g (Array.getElem?_eq_some_iff.1 t2).1).trans t2
            have v2 := (hB5.block w.heap.size (Array.getElem?_eq_some_iff.1 s2).1).trans s2
            have hB6 := hB.trans (hB5.mono hB.size)
            have d0 : w5.cell? ⟨g, 0, none⟩ = some (.int .u64 (qa.1 : Nat)) := cell_of_row _ _ _ _ _ _ u2
            have d1 : w5.cell? ⟨g, 1, none⟩ = some (.int .u64 (qa.2 : Nat)) := cell_of_row _ _ _ _ _ _ u2
            have y0 : w5.frozen? ⟨g, 0, none⟩ = false := frozen_of_row _ _ _ _ _ u2
            have y1 : w5.frozen? ⟨g, 1, none⟩ = false := frozen_of_row _ _ _ _ _ u2
            have t3 := heap_setCell_same _ g 1 _ _ (.int .u64 (qb.2 : Nat)) (heap_setCell_same w5 g 0 _ _ (.int .u64 (qb.1 : Nat)) u2)
            have s3 : ((w5.setCell ⟨g, 0, none⟩ (.int .u64 (qb.1 : Nat))).setCell ⟨g, 1, none⟩ (.int .u64 (qb.2 : Nat))).heap[w.heap.size]? = some (.cells #[.int .u64 0, .int .u64 0] 28 (0, 0)) := by
              rw [Below.heap_setCell _ _ _ _ (by have := HG.out; simp; omega), Below.heap_setCell _ _ _ _ (by have := HG.out; simp; omega)]; exact v2
            have hB7 := (hB6.setCell (p := ⟨g, 0, none⟩) (Nat.le_of_lt HG.out) (.int .u64 (qb.1 : Nat))).setCell (p := ⟨g, 1, none⟩) (Nat.le_of_lt HG.out) (.int .u64 (qb.2 : Nat))
            clear hB5 hB6 u2 v2 t2 s2 c0 c1
            go_wp2_with fail
            go_roundw
            case rel => exact ⟨i + 1, t + 8, hide (by have := HT.out; omega), hide (by have := HT.out; omega), rfl, by rw [← HQ.out]; exact t3, s3, hB7⟩
            case measure => simp [intOf]; omega
          · have hzl2 : z0 < m.length := by have := HZ2.out; omega
            have hk7 : k < 8 := by have := HK.out; omega
            have q0 : (z0 : Int) < t + 8 := by have := HZ.out; omega
            have q1 : (z0 : Int) < (ofL m).size := by omega
            have hx := List.getElem?_eq_getElem hzl2
            have hdx : (m.drop t)[k]? = some m[z0] := by rw [List.getElem?_drop, ← HZ.out]; exact hx
            have HN := hide (wordN_take _ k _ hdx)
            have hxg : (ofL m)[z0]'(by omega) = m[z0] := by simp [ofL, ByteArray.getElem_eq_getElem_data]
            have hacc := wordN_lt ((m.drop t).take k)
            have hlk : 256 ^ ((m.drop t).take k).length ≤ 256 ^ k := Nat.pow_le_pow_right (by decide) (by rw [List.length_take]; omega)
            have hp7 : 256 ^ k ≤ 256 ^ 7 := Nat.pow_le_pow_right (by decide) (by omega)
            generalize m[z0] = x at hx hxg HN hdx
            have hx256 := x.toNat_lt
            have hU : 256 ^ k % 18446744073709551616 = 256 ^ k := Nat.mod_eq_of_lt (by omega)
            rw [hU]
            have hmx : 256 ^ k * x.toNat ≤ 256 ^ k * 255 := Nat.mul_le_mul_left _ (by omega)
            have w1 : IntKind.u64.wrap (((256 ^ k : Nat) : Int) * (x.toNat : Int)) = ((256 ^ k * x.toNat : Nat) : Int) := by
              rw [show ((256 ^ k : Nat) : Int) * (x.toNat : Int) = ((256 ^ k * x.toNat : Nat) : Int) by simp, wrap_mod, Nat.mod_eq_of_lt (by omega)]
            have w2' : IntKind.u64.wrap (((wordN ((m.drop t).take k) : Nat) : Int) + ((256 ^ k * x.toNat : Nat) : Int)) = ((wordN ((m.drop t).take (k + 1)) : Nat) : Int) := by
              rw [HN.out, show ((wordN ((m.drop t).take k) : Nat) : Int) + ((256 ^ k * x.toNat : Nat) : Int) = ((wordN ((m.drop t).take k) + 256 ^ k * x.toNat : Nat) : Int) by simp, wrap_mod, Nat.mod_eq_of_lt (by omega)]
            have w3' : IntKind.u64.wrap (((256 ^ k : Nat) : Int) * 256) = ((256 ^ (k + 1) % 18446744073709551616 : Nat) : Int) := by
              rw [show ((256 ^ k : Nat) : Int) * 256 = ((256 ^ (k + 1) : Nat) : Int) by rw [Nat.pow_succ]; simp, wrap_mod]
            have HK7 := hide hk7
            have HZ3 := hide hzl2
            have HU2 := hide (rfl : 256 ^ (k + 1) % 18446744073709551616 = 256 ^ (k + 1) % 18446744073709551616)
            clear hU hx hdx HN hacc hlk hp7 hmx hk7 hzl hk8
            clear HU2
            generalize hu2 : 256 ^ (k + 1) % 18446744073709551616 = U2 at w3'
            have HU2 := hide hu2
            clear hu2
            generalize 256 ^ k * x.toNat = px at w1 w2'
            generalize 256 ^ k = U at w1 w3'
            generalize hwa : wordN ((m.drop t).take k) = wa at w2'
            generalize hwb : wordN ((m.drop t).take (k + 1)) = wb at w2'
            have HWA := hide hwa
            have HWB := hide hwb
            clear hwa hwb
            go_wp2_with fail
            go_roundw
            case rel => exact ⟨k + 1, z0 + 1, hide (by have := HZ.out; omega), hide (by have := HK7.out; omega), hide (by have := HZ3.out; omega), rfl, by rw [HWB.out], by rw [HU2.out], trivial⟩
            case measure => simp [intOf]; omega
    · have HF := hide (show i = (m.length + 7) / 8 by have := HT.out; have := HI.out; omega)
      have hti : (m.length : Int) ≤ t := by omega
      clear hlt
      have hf : ∀ W q v, Two q → v < 18446744073709551616 → Calls Try.prog 102 #[.agg #[.int .u64 (q.1 : Nat), .int .u64 (q.2 : Nat)], .int .u64 (v : Nat)] W fun e w' => e = .returned (.agg #[.int .u64 ((roundN q v).1 : Nat), .int .u64 ((roundN q v).2 : Nat)]) ∧ Below W.heap.size W w' := fun W q v h1 h2 => refRound_any q v W h1 h2
      obtain ⟨qa, hqa⟩ : ∃ qa, qa = atN i m := ⟨_, rfl⟩
      rw [← hqa] at t2
      have hT0 : Two qa := by rw [hqa]; exact atN_two _ _
      have h1 := fun W => hf W qa m.length hT0 (by omega)
      obtain ⟨qb, hqb⟩ : ∃ qb, qb = roundN qa m.length := ⟨_, rfl⟩
      rw [← hqb] at h1
      have hT1 : Two qb := by rw [hqb]; exact roundN_two _ _
      have h2 := fun W => hf W qb 18446744073709551615 hT1 (by decide)
      obtain ⟨qc, hqc⟩ : ∃ qc, qc = roundN qb 18446744073709551615 := ⟨_, rfl⟩
      rw [← hqc] at h2
      have hT2 : Two qc := by rw [hqc]; exact roundN_two _ _
      have h3 := fun W => hf W qc 0 hT2 (by decide)
      obtain ⟨qd, hqd⟩ : ∃ qd, qd = roundN qc 0 := ⟨_, rfl⟩
      rw [← hqd] at h3
      have hT3 : Two qd := by rw [hqd]; exact roundN_two _ _
      have h4 := fun W => hf W qd 0 hT3 (by decide)
      obtain ⟨qe, hqe⟩ : ∃ qe, qe = roundN qd 0 := ⟨_, rfl⟩
      rw [← hqe] at h4
      have HE := hide (show qe = sumL m by rw [hqe, hqd, hqc, hqb, hqa, HF.out]; rfl)
      have H1 := hide h1
      have H2 := hide h2
      have H3 := hide h3
      have H4 := hide h4
      clear hqa hqb hqc hqd hqe h1 h2 h3 h4 hf hT0 hT1 hT2 hT3 HF HT HI
      have c0 : wr.cell? ⟨g, 0, none⟩ = some (.int .u64 (qa.1 : Nat)) := cell_of_row _ _ _ _ _ _ t2
      have c1 : wr.cell? ⟨g, 1, none⟩ = some (.int .u64 (qa.2 : Nat)) := cell_of_row _ _ _ _ _ _ t2
      go_wp2_with fail
      refine (H1.out _).mono ?_
      rintro e w5 ⟨rfl, hB5⟩
      have u2 := (hB5.block g (Array.getElem?_eq_some_iff.1 t2).1).trans t2
      have v2 := (hB5.block w.heap.size (Array.getElem?_eq_some_iff.1 s2).1).trans s2
      have hB6 := hB.trans (hB5.mono hB.size)
      have d0 : w5.cell? ⟨g, 0, none⟩ = some (.int .u64 (qa.1 : Nat)) := cell_of_row _ _ _ _ _ _ u2
      have d1 : w5.cell? ⟨g, 1, none⟩ = some (.int .u64 (qa.2 : Nat)) := cell_of_row _ _ _ _ _ _ u2
      have y0 : w5.frozen? ⟨g, 0, none⟩ = false := frozen_of_row _ _ _ _ _ u2
      have y1 : w5.frozen? ⟨g, 1, none⟩ = false := frozen_of_row _ _ _ _ _ u2
      have t3 := heap_setCell_same _ g 1 _ _ (.int .u64 (qb.2 : Nat)) (heap_setCell_same w5 g 0 _ _ (.int .u64 (qb.1 : Nat)) u2)
      have s3 : ((w5.setCell ⟨g, 0, none⟩ (.int .u64 (qb.1 : Nat))).setCell ⟨g, 1, none⟩ (.int .u64 (qb.2 : Nat))).heap[w.heap.size]? = some (.cells #[.int .u64 0, .int .u64 0] 28 (0, 0)) := by
        rw [Below.heap_setCell _ _ _ _ (by have := HG.out; simp; omega), Below.heap_setCell _ _ _ _ (by have := HG.out; simp; omega)]; exact v2
      have hB7 := (hB6.setCell (p := ⟨g, 0, none⟩) (Nat.le_of_lt HG.out) (.int .u64 (qb.1 : Nat))).setCell (p := ⟨g, 1, none⟩) (Nat.le_of_lt HG.out) (.int .u64 (qb.2 : Nat))
      have f0 : ((w5.setCell ⟨g, 0, none⟩ (.int .u64 (qb.1 : Nat))).setCell ⟨g, 1, none⟩ (.int .u64 (qb.2 : Nat))).cell? ⟨g, 0, none⟩ = some (.int .u64 (qb.1 : Nat)) := cell_of_row _ _ _ _ _ _ t3
      have f1 : ((w5.setCell ⟨g, 0, none⟩ (.int .u64 (qb.1 : Nat))).setCell ⟨g, 1, none⟩ (.int .u64 (qb.2 : Nat))).cell? ⟨g, 1, none⟩ = some (.int .u64 (qb.2 : Nat)) := cell_of_row _ _ _ _ _ _ t3
      clear hB5 hB6 u2 v2 t2 s2 c0 c1 hB
      go_wp2_with fail
      clear d0 d1 y0 y1
      generalize ((w5.setCell ⟨g, 0, none⟩ (.int .u64 (qb.1 : Nat))).setCell ⟨g, 1, none⟩ (.int .u64 (qb.2 : Nat))) = wr at t3 s3 hB7 f0 f1 ⊢
      have t2 := t3
      have s2 := s3
      have hB := hB7
      clear t3 s3 hB7
      refine (H2.out _).mono ?_
      rintro e w5 ⟨rfl, hB5⟩
      have u2 := (hB5.block g (Array.getElem?_eq_some_iff.1 t2).1).trans t2
      have v2 := (hB5.block w.heap.size (Array.getElem?_eq_some_iff.1 s2).1).trans s2
      have hB6 := hB.trans (hB5.mono hB.size)
      have d0 : w5.cell? ⟨g, 0, none⟩ = some (.int .u64 (qb.1 : Nat)) := cell_of_row _ _ _ _ _ _ u2
      have d1 : w5.cell? ⟨g, 1, none⟩ = some (.int .u64 (qb.2 : Nat)) := cell_of_row _ _ _ _ _ _ u2
      have y0 : w5.frozen? ⟨g, 0, none⟩ = false := frozen_of_row _ _ _ _ _ u2
      have y1 : w5.frozen? ⟨g, 1, none⟩ = false := frozen_of_row _ _ _ _ _ u2
      have t3 := heap_setCell_same _ g 1 _ _ (.int .u64 (qc.2 : Nat)) (heap_setCell_same w5 g 0 _ _ (.int .u64 (qc.1 : Nat)) u2)
      have s3 : ((w5.setCell ⟨g, 0, none⟩ (.int .u64 (qc.1 : Nat))).setCell ⟨g, 1, none⟩ (.int .u64 (qc.2 : Nat))).heap[w.heap.size]? = some (.cells #[.int .u64 0, .int .u64 0] 28 (0, 0)) := by
        rw [Below.heap_setCell _ _ _ _ (by have := HG.out; simp; omega), Below.heap_setCell _ _ _ _ (by have := HG.out; simp; omega)]; exact v2
      have hB7 := (hB6.setCell (p := ⟨g, 0, none⟩) (Nat.le_of_lt HG.out) (.int .u64 (qc.1 : Nat))).setCell (p := ⟨g, 1, none⟩) (Nat.le_of_lt HG.out) (.int .u64 (qc.2 : Nat))
      have f0 : ((w5.setCell ⟨g, 0, none⟩ (.int .u64 (qc.1 : Nat))).setCell ⟨g, 1, none⟩ (.int .u64 (qc.2 : Nat))).cell? ⟨g, 0, none⟩ = some (.int .u64 (qc.1 : Nat)) := cell_of_row _ _ _ _ _ _ t3
      have f1 : ((w5.setCell ⟨g, 0, none⟩ (.int .u64 (qc.1 : Nat))).setCell ⟨g, 1, none⟩ (.int .u64 (qc.2 : Nat))).cell? ⟨g, 1, none⟩ = some (.int .u64 (qc.2 : Nat)) := cell_of_row _ _ _ _ _ _ t3
      clear hB5 hB6 u2 v2 t2 s2 hB
      go_wp2_with fail
      clear d0 d1 y0 y1
      generalize ((w5.setCell ⟨g, 0, none⟩ (.int .u64 (qc.1 : Nat))).setCell ⟨g, 1, none⟩ (.int .u64 (qc.2 : Nat))) = wr at t3 s3 hB7 f0 f1 ⊢
      refine (H3.out _).mono ?_
      rintro e w5 ⟨rfl, hB5⟩
      go_wp2_with fail
      refine (H4.out _).mono ?_
      rintro e w6 ⟨rfl, hB6⟩
      have hBx := (hB7.trans (hB5.mono hB7.size)).trans (hB6.mono (hB7.trans (hB5.mono hB7.size)).size)
      have v2 := (hB6.block w.heap.size (Nat.lt_of_lt_of_le (Array.getElem?_eq_some_iff.1 s3).1 hB5.size)).trans ((hB5.block w.heap.size (Array.getElem?_eq_some_iff.1 s3).1).trans s3)
      clear hB7 hB5 hB6 s3 t3 f0 f1
      have d0 : w6.cell? ⟨w.heap.size, 0, none⟩ = some (.int .u64 0) := cell_of_row _ _ _ _ _ _ v2
      have d1 : w6.cell? ⟨w.heap.size, 1, none⟩ = some (.int .u64 0) := cell_of_row _ _ _ _ _ _ v2
      have z0 : w6.frozen? ⟨w.heap.size, 0, none⟩ = false := frozen_of_row _ _ _ _ _ v2
      have z1 : w6.frozen? ⟨w.heap.size, 1, none⟩ = false := frozen_of_row _ _ _ _ _ v2
      have HX := hide (set_two w w6 w.heap.size _ _ (.int .u64 (qe.1 : Nat)) (.int .u64 (qe.2 : Nat)) _ v2 (Nat.le_refl _) hBx)
      clear v2 hBx
      go_wp2_with fail
      obtain ⟨y0, y1, hBf⟩ := HX.out
      refine bodyPost_ret (v := .agg #[.int .u64 (qe.1 : Nat), .int .u64 (qe.2 : Nat)]) (by simp [results, Try.results64, go_sem, y0, y1]) rfl ⟨by rw [← HE.out]; rfl, hBf⟩
end Go.Proofs.Ytobgbheodlpclaa
