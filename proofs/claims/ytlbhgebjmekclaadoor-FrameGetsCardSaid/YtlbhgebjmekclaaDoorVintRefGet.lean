/-
  The reference's reader: fail, Get, GetInt.
-/
import Derived.Test.YtlbhgebjmekclaaDoorVintText
import Derived.StillTailTactics
import Derived.Test.YtlbhgebjmekclaaDoorVintRefPutNT
namespace Go.Proofs.YtlbhgebjmekclaaDoor
open Go.RowKit
set_option maxRecDepth 100000

/-- The reference's reader, as a value. -/
def refV (l : List UInt8) (e : Nat) : Value := .agg #[.string (ofL l), .int .i64 (e : Nat)]

theorem new_rows (w : World) (X Y : Array Value) (t u : TypeId) : ((w.alloc (.cells X t)).alloc (.cells Y u)).heap[w.heap.size]? = some (.cells X t (0, 0)) ∧ ((w.alloc (.cells X t)).alloc (.cells Y u)).heap[w.heap.size + 1]? = some (.cells Y u (0, 0)) ∧ Below w.heap.size w ((w.alloc (.cells X t)).alloc (.cells Y u)) := by
  refine ⟨?_, ?_, ((Below.refl _ w).alloc (Nat.le_refl _) _).alloc (by simp) _⟩
  · rw [Below.heap_alloc _ _ _ (by simp)]
    exact World.alloc_heap_new _ _
  · have h := World.alloc_heap_new (w.alloc (.cells X t)) (Obj.cells Y u)
    simp only [World.size_alloc] at h
    exact h
set_option maxHeartbeats 1000000 in
theorem fail_any (s : ByteArray) (e0 e : Int) (w : World) :
    Calls Tryd.prog 47 #[.agg #[.string s, .int .i64 e0], .int .i64 e] w fun en w' => en = .returned (.agg #[.string ⟨#[]⟩, .int .i64 e]) ∧ Below w.heap.size w w' := by
  obtain ⟨_, r1, hB⟩ := new_rows w #[.string s, .int .i64 e0] #[.string ⟨#[]⟩, .int .i64 e] 60 60
  go_enter Tryd.func47, Tryd.ntmps47
  go_wp2_with fail
  generalize ((w.alloc (.cells #[.string s, .int .i64 e0] 60)).alloc (.cells #[.string ⟨#[]⟩, .int .i64 e] 60)) = w2 at r1 hB ⊢
  have y0 : w2.cell? ⟨w.heap.size + 1, 0, none⟩ = some (.string ⟨#[]⟩) := cell_of_row _ _ _ _ _ _ r1
  have y1 : w2.cell? ⟨w.heap.size + 1, 1, none⟩ = some (.int .i64 e) := cell_of_row _ _ _ _ _ _ r1
  refine bodyPost_ret (v := .agg #[.string ⟨#[]⟩, .int .i64 e]) (by simp [results, Tryd.results47, go_sem, y0, y1]) rfl ⟨rfl, hB⟩

/-- The reference's reader where l is left and e is the error: it keeps no bytes behind one. -/
def refR (l : List UInt8) (e : Nat) : Value := refV (if e ≠ 0 then [] else l) e
theorem refR_err (l : List UInt8) (e : Nat) (h : e ≠ 0) : refR l e = .agg #[.string ⟨#[]⟩, .int .i64 (e : Nat)] := by unfold refR refV; rw [if_pos h]; rfl
theorem refR_ok (l : List UInt8) : refR l 0 = .agg #[.string (ofL l), .int .i64 0] := rfl

set_option maxHeartbeats 1000000 in
theorem get_err (l : List UInt8) (e : Nat) (most : Int) (w : World) (h : e ≠ 0) :
    Calls Tryd.prog 31 #[refR l e, .int .u64 most] w fun en w' => en = .returned (.tuple #[refR l e, .int .u64 0]) ∧ Below w.heap.size w w' := by
  rw [refR_err l e h]
  have E1 : ((e : Int) != 0) = true := by rw [bne_iff_ne]; omega
  clear h
  obtain ⟨_, r1, hB⟩ := new_rows w #[.string ⟨#[]⟩, .int .i64 (e : Nat)] #[.string ⟨#[]⟩, .int .i64 (e : Nat)] 60 60
  go_enter Tryd.func31, Tryd.ntmps31
  go_wp2_with fail
  generalize ((w.alloc (.cells #[.string ⟨#[]⟩, .int .i64 (e : Nat)] 60)).alloc (.cells #[.string ⟨#[]⟩, .int .i64 (e : Nat)] 60)) = w2 at r1 hB ⊢
  have y0 : w2.cell? ⟨w.heap.size + 1, 0, none⟩ = some (.string ⟨#[]⟩) := cell_of_row _ _ _ _ _ _ r1
  have y1 : w2.cell? ⟨w.heap.size + 1, 1, none⟩ = some (.int .i64 (e : Nat)) := cell_of_row _ _ _ _ _ _ r1
  refine bodyPost_ret (v := .tuple #[.agg #[.string ⟨#[]⟩, .int .i64 (e : Nat)], .int .u64 0]) (by simp [results, Tryd.results31, go_sem, y0, y1]) rfl ⟨rfl, hB⟩

/-- The world behind the answer's store, and what it reads. -/
theorem ref_end (w w3 : World) (n : Nat) (a b x y : Value) (t : TypeId) (h : w3.heap[n]? = some (.cells #[a, b] t (0, 0))) (hn : w.heap.size ≤ n) (hB : Below w.heap.size w w3) :
    ((w3.setCell ⟨n, 0, none⟩ x).setCell ⟨n, 1, none⟩ y).cell? ⟨n, 0, none⟩ = some x ∧ ((w3.setCell ⟨n, 0, none⟩ x).setCell ⟨n, 1, none⟩ y).cell? ⟨n, 1, none⟩ = some y ∧ Below w.heap.size w ((w3.setCell ⟨n, 0, none⟩ x).setCell ⟨n, 1, none⟩ y) := by
  have hfin := heap_setCell_same _ n 1 _ _ y (heap_setCell_same w3 n 0 _ _ x h)
  exact ⟨cell_of_row _ _ _ _ _ _ hfin, cell_of_row _ _ _ _ _ _ hfin, (hB.setCell (p := ⟨n, 0, none⟩) hn _).setCell (p := ⟨n, 1, none⟩) hn _⟩
theorem ofL_extract (l : List UInt8) (k : Nat) : (ofL l).extract k l.length = ofL (l.drop k) := by
  apply toL_inj
  simp [toL, ofL, List.take_of_length_le]
set_option maxHeartbeats 4000000 in
theorem get_ok (l : List UInt8) (most : Nat) (w : World) (hl : l.length ≤ 1000000) :
    Calls Tryd.prog 31 #[refR l 0, .int .u64 most] w fun en w' => en = .returned (.tuple #[refR (readN l 0 most).2.1 (readN l 0 most).2.2, .int .u64 ((readN l 0 most).1 : Nat)]) ∧ Below w.heap.size w w' := by
  rw [refR_ok]
  obtain ⟨r0, r1, hB⟩ := new_rows w #[.string (ofL l), .int .i64 0] #[.string ⟨#[]⟩, .int .i64 0] 60 60
  have hz : ((w.alloc (.cells #[.string (ofL l), .int .i64 0] 60)).alloc (.cells #[.string ⟨#[]⟩, .int .i64 0] 60)).heap.size = w.heap.size + 2 := by simp
  have hsz := ofL_size l
  have hli : (l.length : Int) ≤ 1000000 := by omega
  go_enter Tryd.func31, Tryd.ntmps31
  go_wp2_with fail
  generalize ((w.alloc (.cells #[.string (ofL l), .int .i64 0] 60)).alloc (.cells #[.string ⟨#[]⟩, .int .i64 0] 60)) = w2 at r0 r1 hB hz ⊢
  have c0 : w2.cell? ⟨w.heap.size, 0, none⟩ = some (.string (ofL l)) := cell_of_row _ _ _ _ _ _ r0
  have c1 : w2.cell? ⟨w.heap.size, 1, none⟩ = some (.int .i64 0) := cell_of_row _ _ _ _ _ _ r0
  go_loopw [6, 7, 8, 9] (fun n u i x wr => ∃ k a : Nat, k ≤ l.length ∧ k ≤ 9 ∧ i = .int .i64 k ∧ n = .int .u64 a ∧ u = .int .u64 ((128 : Int) ^ k) ∧ a < 128 ^ k ∧ Hid (numL l = numF k a (l.drop k)) ∧ wr = w2) (fun _ _ i _ _ => 10 - (intOf i).toNat)
  case atStart => exact ⟨0, 0, Nat.zero_le _, by decide, rfl, rfl, rfl, by decide, hide rfl, rfl⟩
  case round =>
    obtain ⟨k, a, hk, hk9, rfl, rfl, rfl, ha, HN, rfl⟩ := hrel
    by_cases hlt : k < l.length
    · have hx := List.getElem?_eq_getElem hlt
      have hstep := HN.out.trans (numF_step l k a _ hx)
      have hbx : (ofL l).data[k]? = some l[k] := by simp [ofL, hlt]
      generalize l[k] = x at hx hstep hbx
      have hk10 : (k : Int) < 10 := by omega
      have hlk : (k : Int) < (ofL l).size := by omega
      have hlk2 : k < (ofL l).size := by omega
      have hx256 := x.toNat_lt
      have hxg : (ofL l)[k]'hlk2 = x := by
        have h : (ofL l).data[k]'hlk2 = x := by rw [Array.getElem?_eq_some_iff] at hbx; exact hbx.2
        exact h
      by_cases hbad : (k = 9 ∧ 1 < x.toNat) ∨ (0 < k ∧ x.toNat = 0)
      · have HE := hide (show readN l 0 most = (0, l, 3) by
          have : numL l = (0, 0, 3) := by rw [hstep, numF_bad _ _ _ _ hbad]
          unfold readN; rw [this]; rfl)
        by_cases h9 : k = 9 ∧ 1 < x.toNat
        · have E9 : ((k : Int) == 9) = true := by rw [h9.1]; rfl
          have x1 : (1 : Int) < x.toNat := by omega
          clear hbad h9 hstep hx hbx
          go_wp2_with fail
          refine (fail_any _ _ _ _).mono ?_
          rintro en w3 ⟨rfl, hB3⟩
          have i1 := (hB3.block (w.heap.size + 1) (by omega)).trans r1
          have d0 : w3.cell? ⟨w.heap.size + 1, 0, none⟩ = some (.string ⟨#[]⟩) := cell_of_row _ _ _ _ _ _ i1
          have d1 : w3.cell? ⟨w.heap.size + 1, 1, none⟩ = some (.int .i64 0) := cell_of_row _ _ _ _ _ _ i1
          have z0 : w3.frozen? ⟨w.heap.size + 1, 0, none⟩ = false := frozen_of_row _ _ _ _ _ i1
          have z1 : w3.frozen? ⟨w.heap.size + 1, 1, none⟩ = false := frozen_of_row _ _ _ _ _ i1
          have HX := hide (ref_end w w3 (w.heap.size + 1) _ _ (.string ⟨#[]⟩) (.int .i64 3) _ i1 (by omega) (hB.trans (hB3.mono hB.size)))
          clear i1 r0 r1 hB hB3
          go_wp2_with fail
          obtain ⟨y0, y1, hBf⟩ := HX.out
          refine bodyPost_ret (v := .tuple #[.agg #[.string ⟨#[]⟩, .int .i64 3], .int .u64 0]) (by simp [results, Tryd.results31, go_sem, y0, y1]) rfl ⟨by rw [HE.out]; rfl, hBf⟩
        · have hk0 : (0 : Int) < k := by omega
          have hx0 : x.toNat = 0 := by omega
          have X0 : ((x.toNat : Int) == 0) = true := by rw [hx0]; rfl
          have X1 : (x.toNat : Int) ≤ 1 := by omega
          have X2 : (x.toNat : Int) < 128 := by omega
          clear hbad h9 hstep hx hbx hx0
          by_cases h9 : k = 9
          · have E9 : ((k : Int) == 9) = true := by rw [h9]; rfl
            clear h9
            go_wp2_with fail
            refine (fail_any _ _ _ _).mono ?_
            rintro en w3 ⟨rfl, hB3⟩
            have i1 := (hB3.block (w.heap.size + 1) (by omega)).trans r1
            have d0 : w3.cell? ⟨w.heap.size + 1, 0, none⟩ = some (.string ⟨#[]⟩) := cell_of_row _ _ _ _ _ _ i1
            have d1 : w3.cell? ⟨w.heap.size + 1, 1, none⟩ = some (.int .i64 0) := cell_of_row _ _ _ _ _ _ i1
            have z0 : w3.frozen? ⟨w.heap.size + 1, 0, none⟩ = false := frozen_of_row _ _ _ _ _ i1
            have z1 : w3.frozen? ⟨w.heap.size + 1, 1, none⟩ = false := frozen_of_row _ _ _ _ _ i1
            have HX := hide (ref_end w w3 (w.heap.size + 1) _ _ (.string ⟨#[]⟩) (.int .i64 3) _ i1 (by omega) (hB.trans (hB3.mono hB.size)))
            clear i1 r0 r1 hB hB3
            go_wp2_with fail
            obtain ⟨y0, y1, hBf⟩ := HX.out
            refine bodyPost_ret (v := .tuple #[.agg #[.string ⟨#[]⟩, .int .i64 3], .int .u64 0]) (by simp [results, Tryd.results31, go_sem, y0, y1]) rfl ⟨by rw [HE.out]; rfl, hBf⟩
          · have E9 : ((k : Int) == 9) = false := by rw [beq_eq_false_iff_ne]; omega
            clear h9
            go_wp2_with fail
            refine (fail_any _ _ _ _).mono ?_
            rintro en w3 ⟨rfl, hB3⟩
            have i1 := (hB3.block (w.heap.size + 1) (by omega)).trans r1
            have d0 : w3.cell? ⟨w.heap.size + 1, 0, none⟩ = some (.string ⟨#[]⟩) := cell_of_row _ _ _ _ _ _ i1
            have d1 : w3.cell? ⟨w.heap.size + 1, 1, none⟩ = some (.int .i64 0) := cell_of_row _ _ _ _ _ _ i1
            have z0 : w3.frozen? ⟨w.heap.size + 1, 0, none⟩ = false := frozen_of_row _ _ _ _ _ i1
            have z1 : w3.frozen? ⟨w.heap.size + 1, 1, none⟩ = false := frozen_of_row _ _ _ _ _ i1
            have HX := hide (ref_end w w3 (w.heap.size + 1) _ _ (.string ⟨#[]⟩) (.int .i64 3) _ i1 (by omega) (hB.trans (hB3.mono hB.size)))
            clear i1 r0 r1 hB hB3
            go_wp2_with fail
            obtain ⟨y0, y1, hBf⟩ := HX.out
            refine bodyPost_ret (v := .tuple #[.agg #[.string ⟨#[]⟩, .int .i64 3], .int .u64 0]) (by simp [results, Tryd.results31, go_sem, y0, y1]) rfl ⟨by rw [HE.out]; rfl, hBf⟩
      · have h9x : k = 9 → x.toNat ≤ 1 := by omega
        have hb64 : a + x.toNat % 128 * 128 ^ k < 18446744073709551616 := by
          have halt : a < 128 ^ 9 := Nat.lt_of_lt_of_le ha (Nat.pow_le_pow_right (by decide) hk9)
          by_cases h9 : k = 9
          · subst h9
            have h1 := h9x rfl
            have : x.toNat % 128 ≤ 1 := by omega
            have := Nat.mul_le_mul_right (128 ^ 9) this
            omega
          · have h1 : 128 ^ k ≤ 128 ^ 8 := Nat.pow_le_pow_right (by decide) (by omega)
            have h2 : x.toNat % 128 * 128 ^ k ≤ 127 * 128 ^ 8 := Nat.mul_le_mul (by omega) h1
            omega
        have hnext := lt_next (m := x.toNat) ha
        have hgood := hstep.trans (numF_good k a x (l.drop (k + 1)) hbad)
        have hcast : (128 : Int) ^ k * ((x.toNat : Int) % 128) = ((x.toNat % 128 * 128 ^ k : Nat) : Int) := by rw [Int.mul_comm]; simp
        obtain ⟨n, hn⟩ : ∃ n, n = a + x.toNat % 128 * 128 ^ k := ⟨_, rfl⟩
        have hW : IntKind.u64.wrap ((a : Int) + IntKind.u64.wrap ((128 : Int) ^ k * ((x.toNat : Int) % 128))) = (n : Int) := by
          rw [hcast, IntKind.wrap_u64, IntKind.wrap_u64]; omega
        rw [← hn] at hgood hnext hb64
        clear hn hcast hstep hx hbx
        have hn1 : (n : Int) ≤ 18446744073709551615 := by omega
        by_cases h128 : x.toNat < 128
        · rw [if_pos h128] at hgood
          have X2 : (x.toNat : Int) < 128 := by omega
          by_cases hmost : (most : Int) < n
          · have HE := hide (show readN l 0 most = (0, l, 5) by unfold readN; rw [hgood, if_neg (by simp), if_neg (by simp), if_pos (by show most < n; omega)])
            clear hgood hnext hb64
            by_cases h9 : k = 9
            · have E9 : ((k : Int) == 9) = true := by rw [h9]; rfl
              have X1 : (x.toNat : Int) ≤ 1 := by omega
              have X0 : ((x.toNat : Int) == 0) = false := by rw [beq_eq_false_iff_ne]; omega
              clear h9 h9x hbad
              go_wp2_with fail
              refine (fail_any _ _ _ _).mono ?_
              rintro en w3 ⟨rfl, hB3⟩
              have i1 := (hB3.block (w.heap.size + 1) (by omega)).trans r1
              have d0 : w3.cell? ⟨w.heap.size + 1, 0, none⟩ = some (.string ⟨#[]⟩) := cell_of_row _ _ _ _ _ _ i1
              have d1 : w3.cell? ⟨w.heap.size + 1, 1, none⟩ = some (.int .i64 0) := cell_of_row _ _ _ _ _ _ i1
              have z0 : w3.frozen? ⟨w.heap.size + 1, 0, none⟩ = false := frozen_of_row _ _ _ _ _ i1
              have z1 : w3.frozen? ⟨w.heap.size + 1, 1, none⟩ = false := frozen_of_row _ _ _ _ _ i1
              have HX := hide (ref_end w w3 (w.heap.size + 1) _ _ (.string ⟨#[]⟩) (.int .i64 5) _ i1 (by omega) (hB.trans (hB3.mono hB.size)))
              clear i1 r0 r1 hB hB3
              go_wp2_with fail
              obtain ⟨y0, y1, hBf⟩ := HX.out
              refine bodyPost_ret (v := .tuple #[.agg #[.string ⟨#[]⟩, .int .i64 5], .int .u64 0]) (by simp [results, Tryd.results31, go_sem, y0, y1]) rfl ⟨by rw [HE.out]; rfl, hBf⟩
            · have E9 : ((k : Int) == 9) = false := by rw [beq_eq_false_iff_ne]; omega
              clear h9 h9x
              by_cases hx0 : x.toNat = 0
              · have X0 : ((x.toNat : Int) == 0) = true := by rw [hx0]; rfl
                have hk0 : (k : Int) ≤ 0 := by omega
                clear hx0 hbad
                go_wp2_with fail
                refine (fail_any _ _ _ _).mono ?_
                rintro en w3 ⟨rfl, hB3⟩
                have i1 := (hB3.block (w.heap.size + 1) (by omega)).trans r1
                have d0 : w3.cell? ⟨w.heap.size + 1, 0, none⟩ = some (.string ⟨#[]⟩) := cell_of_row _ _ _ _ _ _ i1
                have d1 : w3.cell? ⟨w.heap.size + 1, 1, none⟩ = some (.int .i64 0) := cell_of_row _ _ _ _ _ _ i1
                have z0 : w3.frozen? ⟨w.heap.size + 1, 0, none⟩ = false := frozen_of_row _ _ _ _ _ i1
                have z1 : w3.frozen? ⟨w.heap.size + 1, 1, none⟩ = false := frozen_of_row _ _ _ _ _ i1
                have HX := hide (ref_end w w3 (w.heap.size + 1) _ _ (.string ⟨#[]⟩) (.int .i64 5) _ i1 (by omega) (hB.trans (hB3.mono hB.size)))
                clear i1 r0 r1 hB hB3
                go_wp2_with fail
                obtain ⟨y0, y1, hBf⟩ := HX.out
                refine bodyPost_ret (v := .tuple #[.agg #[.string ⟨#[]⟩, .int .i64 5], .int .u64 0]) (by simp [results, Tryd.results31, go_sem, y0, y1]) rfl ⟨by rw [HE.out]; rfl, hBf⟩
              · have X0 : ((x.toNat : Int) == 0) = false := by rw [beq_eq_false_iff_ne]; omega
                clear hx0 hbad
                go_wp2_with fail
                refine (fail_any _ _ _ _).mono ?_
                rintro en w3 ⟨rfl, hB3⟩
                have i1 := (hB3.block (w.heap.size + 1) (by omega)).trans r1
                have d0 : w3.cell? ⟨w.heap.size + 1, 0, none⟩ = some (.string ⟨#[]⟩) := cell_of_row _ _ _ _ _ _ i1
                have d1 : w3.cell? ⟨w.heap.size + 1, 1, none⟩ = some (.int .i64 0) := cell_of_row _ _ _ _ _ _ i1
                have z0 : w3.frozen? ⟨w.heap.size + 1, 0, none⟩ = false := frozen_of_row _ _ _ _ _ i1
                have z1 : w3.frozen? ⟨w.heap.size + 1, 1, none⟩ = false := frozen_of_row _ _ _ _ _ i1
                have HX := hide (ref_end w w3 (w.heap.size + 1) _ _ (.string ⟨#[]⟩) (.int .i64 5) _ i1 (by omega) (hB.trans (hB3.mono hB.size)))
                clear i1 r0 r1 hB hB3
                go_wp2_with fail
                obtain ⟨y0, y1, hBf⟩ := HX.out
                refine bodyPost_ret (v := .tuple #[.agg #[.string ⟨#[]⟩, .int .i64 5], .int .u64 0]) (by simp [results, Tryd.results31, go_sem, y0, y1]) rfl ⟨by rw [HE.out]; rfl, hBf⟩
          · have HE := hide (show readN l 0 most = (n, l.drop (k + 1), 0) by unfold readN; rw [hgood, if_neg (by simp), if_neg (by simp), if_neg (by show ¬ most < n; omega)])
            clear hgood hnext hb64
            by_cases h9 : k = 9
            · have E9 : ((k : Int) == 9) = true := by rw [h9]; rfl
              have X1 : (x.toNat : Int) ≤ 1 := by omega
              have X0 : ((x.toNat : Int) == 0) = false := by rw [beq_eq_false_iff_ne]; omega
              clear h9 h9x hbad
              have d0 : wr.cell? ⟨w.heap.size + 1, 0, none⟩ = some (.string ⟨#[]⟩) := cell_of_row _ _ _ _ _ _ r1
              have d1 : wr.cell? ⟨w.heap.size + 1, 1, none⟩ = some (.int .i64 0) := cell_of_row _ _ _ _ _ _ r1
              have z0 : wr.frozen? ⟨w.heap.size + 1, 0, none⟩ = false := frozen_of_row _ _ _ _ _ r1
              have z1 : wr.frozen? ⟨w.heap.size + 1, 1, none⟩ = false := frozen_of_row _ _ _ _ _ r1
              have HX := hide (fun x y => ref_end w wr (w.heap.size + 1) _ _ x y _ r1 (by omega) hB)
              clear r0 r1 hB
              go_wp2_with fail
              obtain ⟨y0, y1, hBf⟩ := HX.out (.string ((ofL l).extract (k + 1) l.length)) (.int .i64 0)
              refine bodyPost_ret (v := .tuple #[.agg #[.string ((ofL l).extract (k + 1) l.length), .int .i64 0], .int .u64 (n : Nat)]) (by simp [results, Tryd.results31, go_sem, y0, y1]) rfl ⟨by rw [HE.out, ofL_extract]; rfl, hBf⟩
            · have E9 : ((k : Int) == 9) = false := by rw [beq_eq_false_iff_ne]; omega
              clear h9 h9x
              by_cases hx0 : x.toNat = 0
              · have X0 : ((x.toNat : Int) == 0) = true := by rw [hx0]; rfl
                have hk0 : (k : Int) ≤ 0 := by omega
                clear hx0 hbad
                have d0 : wr.cell? ⟨w.heap.size + 1, 0, none⟩ = some (.string ⟨#[]⟩) := cell_of_row _ _ _ _ _ _ r1
                have d1 : wr.cell? ⟨w.heap.size + 1, 1, none⟩ = some (.int .i64 0) := cell_of_row _ _ _ _ _ _ r1
                have z0 : wr.frozen? ⟨w.heap.size + 1, 0, none⟩ = false := frozen_of_row _ _ _ _ _ r1
                have z1 : wr.frozen? ⟨w.heap.size + 1, 1, none⟩ = false := frozen_of_row _ _ _ _ _ r1
                have HX := hide (fun x y => ref_end w wr (w.heap.size + 1) _ _ x y _ r1 (by omega) hB)
                clear r0 r1 hB
                go_wp2_with fail
                obtain ⟨y0, y1, hBf⟩ := HX.out (.string ((ofL l).extract (k + 1) l.length)) (.int .i64 0)
                refine bodyPost_ret (v := .tuple #[.agg #[.string ((ofL l).extract (k + 1) l.length), .int .i64 0], .int .u64 (n : Nat)]) (by simp [results, Tryd.results31, go_sem, y0, y1]) rfl ⟨by rw [HE.out, ofL_extract]; rfl, hBf⟩
              · have X0 : ((x.toNat : Int) == 0) = false := by rw [beq_eq_false_iff_ne]; omega
                clear hx0 hbad
                have d0 : wr.cell? ⟨w.heap.size + 1, 0, none⟩ = some (.string ⟨#[]⟩) := cell_of_row _ _ _ _ _ _ r1
                have d1 : wr.cell? ⟨w.heap.size + 1, 1, none⟩ = some (.int .i64 0) := cell_of_row _ _ _ _ _ _ r1
                have z0 : wr.frozen? ⟨w.heap.size + 1, 0, none⟩ = false := frozen_of_row _ _ _ _ _ r1
                have z1 : wr.frozen? ⟨w.heap.size + 1, 1, none⟩ = false := frozen_of_row _ _ _ _ _ r1
                have HX := hide (fun x y => ref_end w wr (w.heap.size + 1) _ _ x y _ r1 (by omega) hB)
                clear r0 r1 hB
                go_wp2_with fail
                obtain ⟨y0, y1, hBf⟩ := HX.out (.string ((ofL l).extract (k + 1) l.length)) (.int .i64 0)
                refine bodyPost_ret (v := .tuple #[.agg #[.string ((ofL l).extract (k + 1) l.length), .int .i64 0], .int .u64 (n : Nat)]) (by simp [results, Tryd.results31, go_sem, y0, y1]) rfl ⟨by rw [HE.out, ofL_extract]; rfl, hBf⟩
        · rw [if_neg h128] at hgood
          have X2 : (128 : Int) ≤ x.toNat := by omega
          have h8 : k ≤ 8 := by omega
          have E9 : ((k : Int) == 9) = false := by rw [beq_eq_false_iff_ne]; omega
          have HG := hide hgood
          have HU := hide (show IntKind.u64.wrap ((128 : Int) ^ k * 128) = (128 : Int) ^ (k + 1) by
            have h1 : 128 ^ k ≤ 128 ^ 8 := Nat.pow_le_pow_right (by decide) h8
            have h2 : (128 : Int) ^ k = ((128 ^ k : Nat) : Int) := by simp
            rw [Int.pow_succ, IntKind.wrap_u64, h2]; omega)
          clear hgood hb64 h9x hbad h128
          go_wp2_with fail
          go_roundw
          case rel => exact ⟨k + 1, n, hlt, by omega, rfl, rfl, by rw [HU.out], hnext, HG, trivial⟩
          case measure => simp [intOf]; omega
    · have HE := hide (show readN l 0 most = (0, l, 4) by
        have : numL l = (0, 0, 4) := by rw [HN.out, List.drop_of_length_le (by omega)]; rfl
        unfold readN; rw [this]; rfl)
      have hlk : ((ofL l).size : Int) ≤ k := by omega
      go_wp2_with fail
      refine (fail_any _ _ _ _).mono ?_
      rintro en w3 ⟨rfl, hB3⟩
      have i1 := (hB3.block (w.heap.size + 1) (by omega)).trans r1
      have d0 : w3.cell? ⟨w.heap.size + 1, 0, none⟩ = some (.string ⟨#[]⟩) := cell_of_row _ _ _ _ _ _ i1
      have d1 : w3.cell? ⟨w.heap.size + 1, 1, none⟩ = some (.int .i64 0) := cell_of_row _ _ _ _ _ _ i1
      have z0 : w3.frozen? ⟨w.heap.size + 1, 0, none⟩ = false := frozen_of_row _ _ _ _ _ i1
      have z1 : w3.frozen? ⟨w.heap.size + 1, 1, none⟩ = false := frozen_of_row _ _ _ _ _ i1
      have HX := hide (ref_end w w3 (w.heap.size + 1) _ _ (.string ⟨#[]⟩) (.int .i64 4) _ i1 (by omega) (hB.trans (hB3.mono hB.size)))
      clear i1 r0 r1 hB hB3
      go_wp2_with fail
      obtain ⟨y0, y1, hBf⟩ := HX.out
      refine bodyPost_ret (v := .tuple #[.agg #[.string ⟨#[]⟩, .int .i64 4], .int .u64 0]) (by simp [results, Tryd.results31, go_sem, y0, y1]) rfl ⟨by rw [HE.out]; rfl, hBf⟩
end Go.Proofs.YtlbhgebjmekclaaDoor
