/-
  A number, a text, a sum that is put lies in a row of the call's own.
-/
import Derived.Test.YtobgbheodlpclaaAutoVintSum
import Derived.Deep.RegionWith
namespace Go.Proofs.Ytobgbheodlpclaa
open Go.RowKit
set_option maxRecDepth 100000

theorem ownsRow_lower {w : World} {base base' n size : Nat} {e : TypeId} {v : Value} {xs : List Value} (h : w.ownsRow base e size v n xs) (hb : base' ≤ base) : w.ownsRow base' e size v n xs :=
  ⟨h.1, h.2.imp id fun ⟨g, cap, cur, h1, h2, h3⟩ => ⟨g, cap, cur, h1, Nat.le_trans hb h2, h3⟩⟩
/-- A call's answer: a row of its own, of these bytes. -/
def BytesO (w0 : World) (l : List UInt8) (e : Ending) (w' : World) : Prop :=
  ∃ A c, e = .returned (.slice A l.length c) ∧ w'.ownsRow w0.heap.size 5 1 (.slice A l.length c) l.length (l.map byteV) ∧ RdB w' w'.heap.size A l ∧ Below w0.heap.size w0 w'
theorem BytesO.back {w w1 w' : World} {l : List UInt8} {e : Ending} (h : BytesO w1 l e w') (hb : Below w.heap.size w w1) : BytesO w l e w' := by
  obtain ⟨A, c, h1, h2, h3, h4⟩ := h
  exact ⟨A, c, h1, ownsRow_lower h2 hb.size, h3, hb.trans (h4.mono hb.size)⟩

set_option maxHeartbeats 2000000 in
theorem concat_o (g c : Nat) (L : List (Option Addr × List UInt8 × Nat)) (w : World) (hrow : ∀ k x, L[k]? = some x → w.cell? ⟨g, k, none⟩ = some (.slice x.1 x.2.1.length x.2.2)) (hg : g < w.heap.size)
    (hR : ∀ x ∈ L, RdB w w.heap.size x.1 x.2.1) (hn : L.length ≤ 3) (hs : ∀ x ∈ L, x.2.1.length ≤ 1000000) :
    Calls Try.prog 131 #[.slice (some ⟨g, 0, none⟩) L.length c] w (BytesO w (allB L)) := by
  obtain ⟨i0, hi, hz0, hz1, hz2⟩ := info_parts info_byte
  have HR := hide hR
  have HS := hide hs
  have HW := hide hrow
  clear hR hs hrow
  go_enter Try.func131, Try.ntmps131
  go_wp2_with fail
  go_loopw [3, 11] (fun s i wr => ∃ k : Nat, k ≤ L.length ∧ i = .int .i64 k ∧ s = .int .i64 ((allB (L.take k)).length : Nat) ∧ (allB (L.take k)).length ≤ 1000000 * k ∧ wr = w) (fun _ i _ => L.length - (intOf i).toNat)
  case atStart => exact ⟨0, Nat.zero_le _, rfl, rfl, by simp [allB], rfl⟩
  case round =>
    obtain ⟨k, hk, rfl, rfl, hb, rfl⟩ := hrel
    by_cases hlt : (k : Int) < L.length
    · have hlt' : k < L.length := by omega
      have hx := List.getElem?_eq_getElem hlt'
      have hc := HW.out k _ hx
      have hm := HS.out L[k] (List.getElem_mem hlt')
      have hsn := congrArg List.length (allB_succ L k _ hx)
      rw [List.length_append] at hsn
      have HN := hide hsn
      clear hsn hx
      generalize L[k] = x at hc hm HN
      obtain ⟨xa, xl, xc⟩ := x
      simp only at hc hm HN
      have q1 : (0 : Int) ≤ ((allB (L.take k)).length : Nat) + (xl.length : Nat) := by omega
      have q2 : (((allB (L.take k)).length : Nat) : Int) ≤ 3000000 := by omega
      have q3 : ((xl.length : Nat) : Int) ≤ 1000000 := by omega
      go_wp2_with fail
      go_roundw
      case rel => exact ⟨k + 1, by omega, rfl, by rw [HN.out]; simp, by rw [HN.out]; omega, trivial⟩
      case measure => simp [intOf]; omega
    · have hk' : k = L.length := by omega
      have HE := hide (show (allB (L.take k)).length = (allB L).length by rw [hk', List.take_length])
      have hbl : (allB L).length ≤ 3000000 := by rw [← HE.out]; omega
      rw [HE.out]
      clear hk' hb
      go_wp2_with fail
      refine (grow_any _ _ (by omega)).mono ?_
      rename World => w0
      rintro e w1 ⟨⟨v, rfl, hO⟩, hB1⟩
      clear HE hlt hk
      go_wp2_with fail
      go_loopw [6, 27] (fun s i wr2 => ∃ k : Nat, k ≤ L.length ∧ i = .int .i64 k ∧ wr2.ownsRow w0.heap.size 5 1 s (allB (L.take k)).length ((allB (L.take k)).map byteV) ∧ (allB (L.take k)).length ≤ 1000000 * k ∧ Below w0.heap.size w0 wr2 ) (fun _ i _ => L.length - (intOf i).toNat)
      case atStart => exact ⟨0, Nat.zero_le _, rfl, by simpa [allB] using hO, by simp [allB], hB1⟩
      case round =>
        obtain ⟨k, hk, rfl, hO2, hb, hBa⟩ := hrel
        by_cases hlt : (k : Int) < L.length
        · have hlt' : k < L.length := by omega
          have hx := List.getElem?_eq_getElem hlt'
          have hc := (hBa.cell (p := ⟨g, k, none⟩) hg).trans (HW.out k _ hx)
          have hRx := (HR.out L[k] (List.getElem_mem hlt')).step hBa
          have hm := HS.out L[k] (List.getElem_mem hlt')
          have hsn := allB_succ L k _ hx
          have HN := hide hsn
          clear hsn hx
          generalize L[k] = x at hc hm HN hRx
          obtain ⟨xa, xl, xc⟩ := x
          simp only at hc hm HN hRx
          go_wp2_with (at_builtin; refine wpList_append_bytes rfl _ _ 22 rfl w0.heap.size 5 i0 Try.underlying22 hi hz0 hz1 hz2 _ _ _ rfl hO2 xa _ xc _ xl rfl rfl hRx (by unfold maxLen; omega) (by omega) hBa.size ?_)
          intro v' w' hO3 hg3
          go_wp2_with fail
          go_roundw
          case rel => exact ⟨k + 1, by omega, rfl, by rw [HN.out, List.length_append, List.map_append]; exact hO3, by rw [HN.out, List.length_append]; omega, hBa.grown hg3 hBa.size (fun r e => (hO2.lt r e).1)⟩
          case measure => simp [intOf]; omega
        · have hk' : k = L.length := by omega
          have HE := hide (show allB (L.take k) = allB L by rw [hk', List.take_length])
          rw [HE.out] at hO2
          clear hk' hb
          obtain ⟨A, cc, rfl⟩ := ownsRow_slice hO2
          go_wp2_with fail
          refine bodyPost_ret (results_tmp rfl _ _ _) rfl ⟨A, cc, rfl, hO2, RdB.own hO2, hBa⟩

theorem cat_two_o (A B : Option Addr) (l m : List UInt8) (c d : Nat) (w : World) (hA : RdB w w.heap.size A l) (hB : RdB w w.heap.size B m) (hl : l.length ≤ 1000000) (hm : m.length ≤ 1000000) (t : TypeId) :
    Calls Try.prog 131 #[.slice (some ⟨w.heap.size, 0, none⟩) 2 2] (w.alloc (.cells #[.slice A l.length c, .slice B m.length d] t)) (BytesO w (l ++ m)) := by
  have hnew := World.alloc_heap_new w (Obj.cells #[.slice A l.length c, .slice B m.length d] t)
  have hb : Below w.heap.size w (w.alloc (.cells #[.slice A l.length c, .slice B m.length d] t)) := (Below.refl _ w).alloc (Nat.le_refl _) _
  have h := concat_o w.heap.size 2 [(A, l, c), (B, m, d)] (w.alloc (.cells #[.slice A l.length c, .slice B m.length d] t)) (fun k x hx => by
    rcases k with _ | _ | k
    · simp at hx; subst hx; exact cell_of_row _ _ _ _ _ _ hnew
    · simp at hx; subst hx; exact cell_of_row _ _ _ _ _ _ hnew
    · simp at hx) (by simp) (fun x hx => by
    simp at hx
    rcases hx with rfl | rfl
    · exact hA.step hb
    · exact hB.step hb) (by simp) (fun x hx => by
    simp at hx
    rcases hx with rfl | rfl <;> assumption)
  refine h.mono fun e w' hw => ?_
  have e1 : allB [(A, l, c), (B, m, d)] = l ++ m := by simp [allB]
  rw [e1] at hw
  exact hw.back hb
theorem cat_three_o (A B D : Option Addr) (l m r : List UInt8) (c d f : Nat) (w : World) (hA : RdB w w.heap.size A l) (hB : RdB w w.heap.size B m) (hD : RdB w w.heap.size D r) (hl : l.length ≤ 1000000) (hm : m.length ≤ 1000000) (hr : r.length ≤ 1000000) (t : TypeId) :
    Calls Try.prog 131 #[.slice (some ⟨w.heap.size, 0, none⟩) 3 3] (w.alloc (.cells #[.slice A l.length c, .slice B m.length d, .slice D r.length f] t)) (BytesO w (l ++ m ++ r)) := by
  have hnew := World.alloc_heap_new w (Obj.cells #[.slice A l.length c, .slice B m.length d, .slice D r.length f] t)
  have hb : Below w.heap.size w (w.alloc (.cells #[.slice A l.length c, .slice B m.length d, .slice D r.length f] t)) := (Below.refl _ w).alloc (Nat.le_refl _) _
  have h := concat_o w.heap.size 3 [(A, l, c), (B, m, d), (D, r, f)] (w.alloc (.cells #[.slice A l.length c, .slice B m.length d, .slice D r.length f] t)) (fun k x hx => by
    rcases k with _ | _ | _ | k
    · simp at hx; subst hx; exact cell_of_row _ _ _ _ _ _ hnew
    · simp at hx; subst hx; exact cell_of_row _ _ _ _ _ _ hnew
    · simp at hx; subst hx; exact cell_of_row _ _ _ _ _ _ hnew
    · simp at hx) (by simp) (fun x hx => by
    simp at hx
    rcases hx with rfl | rfl | rfl
    · exact hA.step hb
    · exact hB.step hb
    · exact hD.step hb) (by simp) (fun x hx => by
    simp at hx
    rcases hx with rfl | rfl | rfl <;> assumption)
  refine h.mono fun e w' hw => ?_
  have e1 : allB [(A, l, c), (B, m, d), (D, r, f)] = l ++ m ++ r := by simp [allB]
  rw [e1] at hw
  exact hw.back hb

set_option maxHeartbeats 1000000 in
theorem putNum_o (A : Option Addr) (l : List UInt8) (c n : Nat) (w : World) (hR : RdB w w.heap.size A l) (hl : l.length ≤ 1000000) (hn : n < 18446744073709551616) :
    Calls Try.prog 107 #[.slice A l.length c, .int .u64 n] w (BytesO w (l ++ groupsL n)) := by
  go_enter Try.func107, Try.ntmps107
  go_wp2_with fail
  refine (groups_any n w hn).mono ?_
  rintro e w1 ⟨G, gc, rfl, _, hG, hB1⟩
  have hR1 := hR.step hB1
  have hgl := groupsL_le n
  go_wp2_with fail
  refine (cat_two_o A G l (groupsL n) c gc w1 hR1 hG hl (by omega) _).mono ?_
  rintro e w2 hw2
  obtain ⟨D, d, rfl, h2, h3, h4⟩ := hw2.back hB1
  go_wp2_with fail
  refine bodyPost_ret (results_tmp rfl _ _ _) rfl ⟨D, d, by simp only [List.length_append]; rfl, h2, h3, h4⟩


set_option maxHeartbeats 1000000 in
theorem putText_o (A : Option Addr) (l : List UInt8) (c : Nat) (s : ByteArray) (w : World) (hR : RdB w w.heap.size A l) (hl : l.length ≤ 1000000) (hs : s.size ≤ 1000000) :
    Calls Try.prog 114 #[.slice A l.length c, .string s] w (BytesO w (l ++ (groupsL s.size ++ toL s))) := by
  have hsl : (toL s).length = s.size := by simp [toL]
  have hsi : (s.size : Int) ≤ 1000000 := by omega
  go_enter Try.func114, Try.ntmps114
  go_wp2_with fail
  refine (groups_any s.size w (by omega)).mono ?_
  rintro e w1 ⟨G, gc, rfl, _, hG, hB1⟩
  have hR1 := hR.step hB1
  have hgl := groupsL_le s.size
  have hrun := Lib.run_convert_string_bytes (P := Try.prog) w1 9 22 5 s Try.underlying9 Try.underlying22 Try.underlying5
  obtain ⟨hM, hBM⟩ := made_bytes w1 s
  have hR2 := hR1.step hBM
  have hG2 := hG.step hBM
  have hB2 := hB1.trans (hBM.mono hB1.size)
  generalize Lib.bytesWorld w1 5 s = w2 at hrun hM hBM hR2 hG2 hB2
  generalize grownCap w1 s.size 0 5 = K at hrun
  go_wp2_with fail
  have hcat := cat_three_o A G (some ⟨w1.heap.size, 0, none⟩) l (groupsL s.size) (toL s) c gc K w2 hR2 hG2 hM hl (by omega) (by omega) 22
  rw [hsl, List.append_assoc] at hcat
  refine hcat.mono ?_
  rintro e w3 hw3
  obtain ⟨D, d, rfl, h2, h3, h4⟩ := hw3.back hB2
  go_wp2_with fail
  refine bodyPost_ret (results_tmp rfl _ _ _) rfl ⟨D, d, by simp only [List.length_append, hsl]; rfl, h2, h3, h4⟩

theorem cat_sum_o (A B D : Option Addr) (l : List UInt8) (c hi lo : Nat) (w : World) (hA : RdB w w.heap.size A l) (hB : RdB w w.heap.size B (wordL hi)) (hD : RdB w w.heap.size D (wordL lo)) (hl : l.length ≤ 1000000) :
    Calls Try.prog 131 #[.slice (some ⟨w.heap.size, 0, none⟩) 3 3] (w.alloc (.cells #[.slice A l.length c, .slice B 8 8, .slice D 8 8] 22)) (BytesO w (l ++ (wordL hi ++ wordL lo))) := by
  have h := cat_three_o A B D l (wordL hi) (wordL lo) c 8 8 w hA hB hD hl (by rw [wordL_len]; decide) (by rw [wordL_len]; decide) 22
  rw [wordL_len, wordL_len, List.append_assoc] at h
  exact h

theorem cat_sum_at_o (A B D : Option Addr) (l : List UInt8) (c hi lo N : Nat) (W : World) (hN : W.heap.size = N) (hA : RdB W W.heap.size A l) (hB : RdB W W.heap.size B (wordL hi)) (hD : RdB W W.heap.size D (wordL lo)) (hl : l.length ≤ 1000000) :
    Calls Try.prog 131 #[.slice (some ⟨N, 0, none⟩) 3 3] (W.alloc (.cells #[.slice A l.length c, .slice B 8 8, .slice D 8 8] 22)).drew (BytesO W (l ++ (wordL hi ++ wordL lo))) := by
  subst hN
  have h : Calls Try.prog 131 #[.slice (some ⟨W.heap.size, 0, none⟩) 3 3] (W.alloc (.cells #[.slice A l.length c, .slice B 8 8, .slice D 8 8] 22)).drew (BytesO W.drew (l ++ (wordL hi ++ wordL lo))) := cat_sum_o A B D l c hi lo W.drew hA.drew hB.drew hD.drew hl
  exact h.mono fun e w' hh => hh.back (Below.refl _ W).drew

set_option maxHeartbeats 400000 in
theorem putSum_o (A : Option Addr) (l : List UInt8) (c hi lo : Nat) (w : World) (hR : RdB w w.heap.size A l) (hl : l.length ≤ 1000000) (h1 : hi < 18446744073709551616) (h2 : lo < 18446744073709551616) :
    Calls Try.prog 108 #[.slice A l.length c, .agg #[.int .u64 hi, .int .u64 lo]] w (BytesO w (l ++ (wordL hi ++ wordL lo))) := by
  have H1 := hide h1
  have H2 := hide h2
  have hb : ∀ X Y : Array Value, Below w.heap.size w (((w.alloc (.cells #[.int .u64 hi, .int .u64 lo] 28)).alloc (.cells X 5)).alloc (.cells Y 5)) := fun X Y =>
    (((Below.refl _ w).alloc (Nat.le_refl _) _).alloc (by simp) _).alloc (by simp; omega) _
  have HA := hide (cat_sum_at_o A (some ⟨w.heap.size + 1, 0, none⟩) (some ⟨w.heap.size + 1 + 1, 0, none⟩) l c hi lo (w.heap.size + 1 + 1 + 1) (((w.alloc (.cells #[.int .u64 hi, .int .u64 lo] 28)).alloc (.cells (wordCells hi) 5)).alloc (.cells (wordCells lo) 5)) (by simp)
    (((hR.alloc _).alloc _).alloc _)
    (by have := (word_rd (w.alloc (.cells #[.int .u64 hi, .int .u64 lo] 28)) hi).alloc (.cells (wordCells lo) 5); simpa using this)
    (by have := word_rd ((w.alloc (.cells #[.int .u64 hi, .int .u64 lo] 28)).alloc (.cells (wordCells hi) 5)) lo; simpa using this) hl)
  have HB := hide (cat_sum_at_o A (some ⟨w.heap.size + 1 + 1, 0, none⟩) (some ⟨w.heap.size + 1, 0, none⟩) l c hi lo (w.heap.size + 1 + 1 + 1) (((w.alloc (.cells #[.int .u64 hi, .int .u64 lo] 28)).alloc (.cells (wordCells lo) 5)).alloc (.cells (wordCells hi) 5)) (by simp)
    (((hR.alloc _).alloc _).alloc _)
    (by have := word_rd ((w.alloc (.cells #[.int .u64 hi, .int .u64 lo] 28)).alloc (.cells (wordCells lo) 5)) hi; simpa using this)
    (by have := (word_rd (w.alloc (.cells #[.int .u64 hi, .int .u64 lo] 28)) lo).alloc (.cells (wordCells hi) 5); simpa using this) hl)
  have hb1 := hide (hb (wordCells hi) (wordCells lo))
  have hb2 := hide (hb (wordCells lo) (wordCells hi))
  clear hR h1 h2 hb
  go_enter Try.func108, Try.ntmps108
  go_wp2_with fail
  go_region_with (first
    | (go_at_call 133; ((with_reducible refine (half_any hi _ H1.out).mono ?_); rintro en w4 ⟨rfl, rfl⟩))
    | (go_at_call 133; ((with_reducible refine (half_any lo _ H2.out).mono ?_); rintro en w4 ⟨rfl, rfl⟩))
    | (go_at_call 131; ((with_reducible refine HA.out.mono ?_); rintro en w5 hw5; have hx := hw5.back hb1.out; obtain ⟨E, ec, rfl, g1, g2, g3⟩ := hx))
    | (go_at_call 131; ((with_reducible refine HB.out.mono ?_); rintro en w5 hw5; have hx := hw5.back hb2.out; obtain ⟨E, ec, rfl, g1, g2, g3⟩ := hx)))
  all_goals
    go_wp2_with fail
    refine bodyPost_ret (results_tmp rfl _ _ _) rfl ⟨E, ec, by simp only [List.length_append, wordL_len]; rfl, g1, g2, g3⟩

end Go.Proofs.Ytobgbheodlpclaa
