/-
  patch.Apply's function: what a token stands for is put behind the rest.
-/
import Derived.Test.YtdkdnfcmlnfkcaaPtStep
namespace Go.Proofs.Ytdkdnfcmlnfkcaa
open Go.RowKit
set_option maxRecDepth 100000

/-- One token more: what is wrong, and all bytes so far. -/
def goStep (l : List UInt8) (size : Int) (t : Tk) (O : List UInt8) : Nat × List UInt8 :=
  if stepE l.length size t = 0 then (if 16384 < O.length + (stepL l size t).length then (5, O) else (0, O ++ stepL l size t)) else (stepE l.length size t, O)
/-- All tokens. -/
def goAll (l : List UInt8) (size : Int) : List Tk → List UInt8 → Nat × List UInt8
  | [], O => (0, O)
  | t :: r, O => if (goStep l size t O).1 = 0 then goAll l size r (goStep l size t O).2 else goStep l size t O
theorem goStep_len (l : List UInt8) (size : Int) (t : Tk) (O : List UInt8) (h : O.length ≤ 16384) : (goStep l size t O).2.length ≤ 16384 := by
  unfold goStep
  split
  · split
    · exact h
    · rw [List.length_append]; omega
  · exact h
theorem goAll_len (l : List UInt8) (size : Int) : ∀ (T : List Tk) (O : List UInt8), O.length ≤ 16384 → (goAll l size T O).2.length ≤ 16384
  | [], O, h => h
  | t :: r, O, h => by
    unfold goAll
    split
    · exact goAll_len l size r _ (goStep_len l size t O h)
    · exact goStep_len l size t O h
/-- What stands in the variable that all is put behind. -/
def AP (w : World) (b X : Nat) (O : List UInt8) : Prop :=
  ∃ A c, w.heap[b]? = some (.cells #[.slice A O.length c] 22 (0, 0)) ∧ w.ownsRow X 5 1 (.slice A O.length c) O.length (O.map byteV)
theorem own_cell {w : World} {base n size b j : Nat} {e : TypeId} {v u : Value} {xs : List Value} (h : w.ownsRow base e size v n xs) (hb : b < base) : (w.setCell ⟨b, j, none⟩ u).ownsRow base e size v n xs := by
  refine h.kept (⟨rfl, rfl, rfl, by simp [World.setCell], fun k _ hk => Below.heap_setCell w ⟨b, j, none⟩ u k (fun e => hk (by rw [e]))⟩ : w.grownBy (w.setCell ⟨b, j, none⟩ u) (some b)) ?_
  cases hv : v.ownBlock with
  | none => exact .inl rfl
  | some g => exact .inr (fun e => by have := (h.lt g hv).1; cases e; omega)
theorem AP.step {w w' : World} {b X : Nat} {O : List UInt8} (h : AP w b X O) (hb : Below w.heap.size w w') : AP w' b X O := by
  obtain ⟨A, c, h1, h2⟩ := h
  exact ⟨A, c, (hb.block b (Array.getElem?_eq_some_iff.1 h1).1).trans h1, own_below h2 hb⟩
/-- What the function leaves. -/
def One (w : World) (b X : Nat) (p : Nat × List UInt8) (e : Ending) (w' : World) : Prop := e = .returned (.int .i64 p.1) ∧ AP w' b X p.2 ∧ Below b w w' ∧ w.heap.size ≤ w'.heap.size

set_option maxHeartbeats 8000000 in
theorem applyOne_any (b1 b2 b3 X B : Nat) (A : Option Addr) (l : List UInt8) (c : Nat) (size : Int) (t : Tk) (O : List UInt8) (w : World) (h13 : b1 < b3) (h23 : b2 < b3) (h3X : b3 < X) (hX : X ≤ w.heap.size) (hBb : B ≤ b3)
    (h1 : w.heap[b1]? = some (.cells #[.slice A l.length c] 22 (0, 0))) (h2 : w.heap[b2]? = some (.cells #[.int .i64 size] 3 (0, 0))) (hO : AP w b3 X O) (hR : RdB w B A l) (hc : Caps A l.length c) (hl : l.length ≤ 1000000) (hOl : O.length ≤ 16384) :
    Calls Try.prog 99 #[.agg t.cells, .pointer (some ⟨b1, 0, none⟩), .pointer (some ⟨b2, 0, none⟩), .pointer (some ⟨b3, 0, none⟩)] w (One w b3 X (goStep l size t O)) := by
  obtain ⟨i0, hi, hz0, hz1, hz2⟩ := info_parts info_byte
  have HSt := hide (fun (W : World) (h : Below w.heap.size w W) => step_any A l c size t W ((hR.below h (by omega)).mono (by have := h.size; omega)) hc hl)
  have HLs := hide (stepL_len l size t)
  have hG : goStep l size t O = if stepE l.length size t = 0 then (if 16384 < O.length + (stepL l size t).length then (5, O) else (0, O ++ stepL l size t)) else (stepE l.length size t, O) := rfl
  generalize goStep l size t O = G at hG ⊢
  generalize stepE l.length size t = SE at hG HSt
  generalize stepL l size t = SL at hG HSt HLs
  obtain ⟨fr, many, data⟩ := t
  have hB := (Below.refl w.heap.size w).alloc (Nat.le_refl _) (Obj.cells #[.int .i64 fr, .int .i64 many, .string data] 71)
  simp only [Tk.cells] at HSt ⊢
  have HO := hide (hO.step hB)
  have c1 : (w.alloc (Obj.cells #[.int .i64 fr, .int .i64 many, .string data] 71)).cell? ⟨b1, 0, none⟩ = some (.slice A l.length c) := cell_of_row _ _ _ _ _ _ ((hB.block b1 (by omega)).trans h1)
  have c2 : (w.alloc (Obj.cells #[.int .i64 fr, .int .i64 many, .string data] 71)).cell? ⟨b2, 0, none⟩ = some (.int .i64 size) := cell_of_row _ _ _ _ _ _ ((hB.block b2 (by omega)).trans h2)
  have HB := hide hB
  clear h1 h2 hO hR hB
  by_cases hS : SE = 0
  · rw [if_pos hS] at hG
    subst hS
    have hOi : (O.length : Int) ≤ 16384 := by omega
    by_cases hb : 16384 < O.length + SL.length
    · rw [if_pos hb] at hG
      have HG := hide hG
      have HLb := hide hb
      clear hG hb
      go_enter Try.func99, Try.ntmps99
      go_wp2_with fail
      refine (HSt.out _ HB.out).mono ?_
      rintro e w2 ⟨D, d, rfl, hcd, hRd, hb2⟩
      have HO2 := hide (HO.out.step hb2)
      have HB2 := hide (HB.out.trans (hb2.mono HB.out.size))
      obtain ⟨E, f, hE1, hE2⟩ := HO2.out
      have c3 : w2.cell? ⟨b3, 0, none⟩ = some (.slice E O.length f) := cell_of_row _ _ _ _ _ _ hE1
      have hLi : (SL.length : Int) ≤ 300000 := by have := HLs.out; omega
      have hlt : (16384 : Int) < (O.length : Int) + SL.length := by have := HLb.out; omega
      clear hcd hRd hb2 hE1 hE2 c1 c2
      go_wp2_with fail
      refine bodyPost_ret (results_tmp rfl _ _ _) rfl ?_
      rw [HG.out]
      exact ⟨rfl, HO2.out, HB2.out.mono (by omega), HB2.out.size⟩
    · rw [if_neg hb] at hG
      have HG := hide hG
      have HLb := hide hb
      clear hG hb
      go_enter Try.func99, Try.ntmps99
      go_wp2_with fail
      refine (HSt.out _ HB.out).mono ?_
      rintro e w2 ⟨D, d, rfl, hcd, hRd, hb2⟩
      have HO2 := hide (HO.out.step hb2)
      have HB2 := hide (HB.out.trans (hb2.mono HB.out.size))
      obtain ⟨E, f, hE1, hE2⟩ := HO2.out
      have c3 : w2.cell? ⟨b3, 0, none⟩ = some (.slice E O.length f) := cell_of_row _ _ _ _ _ _ hE1
      have z3 : w2.frozen? ⟨b3, 0, none⟩ = false := frozen_of_row _ _ _ _ _ hE1
      have hLi : (SL.length : Int) ≤ 300000 := by have := HLs.out; omega
      have hlt : ¬ (16384 : Int) < (O.length : Int) + SL.length := by have := HLb.out; omega
      have HD := hide hRd
      have HE1 := hide hE1
      have HE2 := hide hE2
      have hXs : X ≤ w2.heap.size := by have := HB2.out.size; omega
      clear hcd hRd hb2 hE1 hE2 c1 c2
      go_wp2_with (at_builtin; refine wpList_append_bytes rfl _ _ 22 rfl X 5 i0 Try.underlying22 hi hz0 hz1 hz2 _ _ _ rfl HE2.out D _ d _ SL rfl rfl HD.out (by unfold maxLen; omega) (by omega) hXs ?_)
      intro v' w3 hO3 hg3
      obtain ⟨E', f', rfl⟩ := ownsRow_slice hO3
      have hrow3 := (hg3.block b3 (by omega) (fun e => by have := (HE2.out.lt b3 e.symm).1; omega)).trans HE1.out
      have hB3 := (HB2.out.mono (show b3 ≤ w.heap.size by omega)).grown hg3 (by omega) (fun r e => by have := (HE2.out.lt r e).1; omega)
      have hz3 : w3.frozen? ⟨b3, 0, none⟩ = false := frozen_of_row _ _ _ _ _ hrow3
      have hc3 : w3.cell? ⟨b3, 0, none⟩ = some (.slice E O.length f) := cell_of_row _ _ _ _ _ _ hrow3
      have HX := hide (show One w b3 X G (.returned (.int .i64 0)) (w3.setCell ⟨b3, 0, none⟩ (.slice E' (O.length + SL.length) f')) from by
        rw [HG.out]
        refine ⟨rfl, ⟨E', f', ?_, ?_⟩, Below.setCell (p := ⟨b3, 0, none⟩) hB3 (Nat.le_refl _) _, ?_⟩
        · rw [List.length_append]
          exact heap_setCell_same w3 b3 0 _ _ _ hrow3
        · rw [List.length_append, List.map_append]
          exact own_cell hO3 h3X
        · have := hg3.size
          have := HB2.out.size
          have : (w3.setCell ⟨b3, 0, none⟩ (.slice E' (O.length + SL.length) f')).heap.size = w3.heap.size := by simp [World.setCell]
          omega)
      clear hO3 hg3 hB3 hrow3 c3 z3
      go_wp2_with fail
      refine bodyPost_ret (results_tmp rfl _ _ _) rfl ?_
      exact HX.out
  · rw [if_neg hS] at hG
    have E0 : ((SE : Int) != 0) = true := by rw [bne_iff_ne]; omega
    have HG := hide hG
    clear hG hS
    go_enter Try.func99, Try.ntmps99
    go_wp2_with fail
    refine (HSt.out _ HB.out).mono ?_
    rintro e w2 ⟨D, d, rfl, hcd, hRd, hb2⟩
    have HO2 := hide (HO.out.step hb2)
    have HB2 := hide (HB.out.trans (hb2.mono HB.out.size))
    clear hcd hRd hb2 c1 c2
    go_wp2_with fail
    refine bodyPost_ret (results_tmp rfl _ _ _) rfl ?_
    rw [HG.out]
    exact ⟨rfl, HO2.out, HB2.out.mono (by omega), HB2.out.size⟩
end Go.Proofs.Ytdkdnfcmlnfkcaa
