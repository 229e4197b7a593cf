/-
  Texts that belong together: PtOne, PtApply.
-/
import Derived.Test.YtobgbheodlpclaaPtStep
import Derived.Test.YtobgbheodlpclaaAutoTkTo
/-
  patch.Apply's function: what a token stands for is put behind the rest.
-/
namespace Go.Proofs.Ytobgbheodlpclaa
open Go.RowKit
set_option maxRecDepth 100000

/-- One token more: what is wrong, and all bytes so far. -/
def goStep (l : List UInt8) (size : Int) (t : Tk) (O : List UInt8) : Nat × List UInt8 :=
  if stepE l.length size t = 0 then (if 16384 < O.length + (stepL l size t).length then (5, O) else (0, O ++ stepL l size t)) else (stepE l.length size t, O)
/-- All tokens. -/
def goAll (l : List UInt8) (size : Int) : List Tk → List UInt8 → Nat × List UInt8
  | [], O => (0, O)
  | t :: r, O => if (goStep l size t O).1 = 0 then goAll l size r (goStep l size t O).2 else goStep l size t O
theorem goStep_len (l : List UInt8) (size : Int) (t : Tk) (O : List UInt8) (h : O.length ≤ 16384) : (goStep l size t O).2.length ≤ 16384 := by
  unfold goStep
  split
  · split
    · exact h
    · rw [List.length_append]; omega
  · exact h
theorem goAll_len (l : List UInt8) (size : Int) : ∀ (T : List Tk) (O : List UInt8), O.length ≤ 16384 → (goAll l size T O).2.length ≤ 16384
  | [], O, h => h
  | t :: r, O, h => by
    unfold goAll
    split
    · exact goAll_len l size r _ (goStep_len l size t O h)
    · exact goStep_len l size t O h
/-- What stands in the variable that all is put behind. -/
def AP (w : World) (b X : Nat) (O : List UInt8) : Prop :=
  ∃ A c, w.heap[b]? = some (.cells #[.slice A O.length c] 22 (0, 0)) ∧ w.ownsRow X 5 1 (.slice A O.length c) O.length (O.map byteV)
theorem own_cell {w : World} {base n size b j : Nat} {e : TypeId} {v u : Value} {xs : List Value} (h : w.ownsRow base e size v n xs) (hb : b < base) : (w.setCell ⟨b, j, none⟩ u).ownsRow base e size v n xs := by
  refine h.kept (⟨rfl, rfl, rfl, by simp [World.setCell], fun k _ hk => Below.heap_setCell w ⟨b, j, none⟩ u k (fun e => hk (by rw [e]))⟩ : w.grownBy (w.setCell ⟨b, j, none⟩ u) (some b)) ?_
  cases hv : v.ownBlock with
  | none => exact .inl rfl
  | some g => exact .inr (fun e => by have := (h.lt g hv).1; cases e; omega)
theorem AP.step {w w' : World} {b X : Nat} {O : List UInt8} (h : AP w b X O) (hb : Below w.heap.size w w') : AP w' b X O := by
  obtain ⟨A, c, h1, h2⟩ := h
  exact ⟨A, c, (hb.block b (Array.getElem?_eq_some_iff.1 h1).1).trans h1, own_below h2 hb⟩
/-- What the function leaves. -/
def One (w : World) (b X : Nat) (p : Nat × List UInt8) (e : Ending) (w' : World) : Prop := e = .returned (.int .i64 p.1) ∧ AP w' b X p.2 ∧ Below b w w' ∧ w.heap.size ≤ w'.heap.size

set_option maxHeartbeats 8000000 in
theorem applyOne_any (b1 b2 b3 X B : Nat) (A : Option Addr) (l : List UInt8) (c : Nat) (size : Int) (t : Tk) (O : List UInt8) (w : World) (h13 : b1 < b3) (h23 : b2 < b3) (h3X : b3 < X) (hX : X ≤ w.heap.size) (hBb : B ≤ b3)
    (h1 : w.heap[b1]? = some (.cells #[.slice A l.length c] 22 (0, 0))) (h2 : w.heap[b2]? = some (.cells #[.int .i64 size] 3 (0, 0))) (hO : AP w b3 X O) (hR : RdB w B A l) (hc : Caps A l.length c) (hl : l.length ≤ 1000000) (hOl : O.length ≤ 16384) :
    Calls Try.prog 99 #[.agg t.cells, .pointer (some ⟨b1, 0, none⟩), .pointer (some ⟨b2, 0, none⟩), .pointer (some ⟨b3, 0, none⟩)] w (One w b3 X (goStep l size t O)) := by
  obtain ⟨i0, hi, hz0, hz1, hz2⟩ := info_parts info_byte
  have HSt := hide (fun (W : World) (h : Below w.heap.size w W) => step_any A l c size t W ((hR.below h (by omega)).mono (by have := h.size; omega)) hc hl)
  have HLs := hide (stepL_len l size t)
  have hG : goStep l size t O = if stepE l.length size t = 0 then (if 16384 < O.length + (stepL l size t).length then (5, O) else (0, O ++ stepL l size t)) else (stepE l.length size t, O) := rfl
  generalize goStep l size t O = G at hG ⊢
  generalize stepE l.length size t = SE at hG HSt
  generalize stepL l size t = SL at hG HSt HLs
  obtain ⟨fr, many, data⟩ := t
  have hB := (Below.refl w.heap.size w).alloc (Nat.le_refl _) (Obj.cells #[.int .i64 fr, .int .i64 many, .string data] 71)
  simp only [Tk.cells] at HSt ⊢
  have HO := hide (hO.step hB)
  have c1 : (w.alloc (Obj.cells #[.int .i64 fr, .int .i64 many, .string data] 71)).cell? ⟨b1, 0, none⟩ = some (.slice A l.length c) := cell_of_row _ _ _ _ _ _ ((hB.block b1 (by omega)).trans h1)
  have c2 : (w.alloc (Obj.cells #[.int .i64 fr, .int .i64 many, .string data] 71)).cell? ⟨b2, 0, none⟩ = some (.int .i64 size) := cell_of_row _ _ _ _ _ _ ((hB.block b2 (by omega)).trans h2)
  have HB := hide hB
  clear h1 h2 hO hR hB
  by_cases hS : SE = 0
  · rw [if_pos hS] at hG
    subst hS
    have hOi : (O.length : Int) ≤ 16384 := by omega
    by_cases hb : 16384 < O.length + SL.length
    · rw [if_pos hb] at hG
      have HG := hide hG
      have HLb := hide hb
      clear hG hb
      go_enter Try.func99, Try.ntmps99
      go_wp2_with fail
      refine (HSt.out _ HB.out).mono ?_
      rintro e w2 ⟨D, d, rfl, hcd, hRd, hb2⟩
      have HO2 := hide (HO.out.step hb2)
      have HB2 := hide (HB.out.trans (hb2.mono HB.out.size))
      obtain ⟨E, f, hE1, hE2⟩ := HO2.out
      have c3 : w2.cell? ⟨b3, 0, none⟩ = some (.slice E O.length f) := cell_of_row _ _ _ _ _ _ hE1
      have hLi : (SL.length : Int) ≤ 300000 := by have := HLs.out; omega
      have hlt : (16384 : Int) < (O.length : Int) + SL.length := by have := HLb.out; omega
      clear hcd hRd hb2 hE1 hE2 c1 c2
      go_wp2_with fail
      refine bodyPost_ret (results_tmp rfl _ _ _) rfl ?_
      rw [HG.out]
      exact ⟨rfl, HO2.out, HB2.out.mono (by omega), HB2.out.size⟩
    · rw [if_neg hb] at hG
      have HG := hide hG
      have HLb := hide hb
      clear hG hb
      go_enter Try.func99, Try.ntmps99
      go_wp2_with fail
      refine (HSt.out _ HB.out).mono ?_
      rintro e w2 ⟨D, d, rfl, hcd, hRd, hb2⟩
      have HO2 := hide (HO.out.step hb2)
      have HB2 := hide (HB.out.trans (hb2.mono HB.out.size))
      obtain ⟨E, f, hE1, hE2⟩ := HO2.out
      have c3 : w2.cell? ⟨b3, 0, none⟩ = some (.slice E O.length f) := cell_of_row _ _ _ _ _ _ hE1
      have z3 : w2.frozen? ⟨b3, 0, none⟩ = false := frozen_of_row _ _ _ _ _ hE1
      have hLi : (SL.length : Int) ≤ 300000 := by have := HLs.out; omega
      have hlt : ¬ (16384 : Int) < (O.length : Int) + SL.length := by have := HLb.out; omega
      have HD := hide hRd
      have HE1 := hide hE1
      have HE2 := hide hE2
      have hXs : X ≤ w2.heap.size := by have := HB2.out.size; omega
      clear hcd hRd hb2 hE1 hE2 c1 c2
      go_wp2_with (at_builtin; refine wpList_append_bytes rfl _ _ 22 rfl X 5 i0 Try.underlying22 hi hz0 hz1 hz2 _ _ _ rfl HE2.out D _ d _ SL rfl rfl HD.out (by unfold maxLen; omega) (by omega) hXs ?_)
      intro v' w3 hO3 hg3
      obtain ⟨E', f', rfl⟩ := ownsRow_slice hO3
      have hrow3 := (hg3.block b3 (by omega) (fun e => by have := (HE2.out.lt b3 e.symm).1; omega)).trans HE1.out
      have hB3 := (HB2.out.mono (show b3 ≤ w.heap.size by omega)).grown hg3 (by omega) (fun r e => by have := (HE2.out.lt r e).1; omega)
      have hz3 : w3.frozen? ⟨b3, 0, none⟩ = false := frozen_of_row _ _ _ _ _ hrow3
      have hc3 : w3.cell? ⟨b3, 0, none⟩ = some (.slice E O.length f) := cell_of_row _ _ _ _ _ _ hrow3
      have HX := hide (show One w b3 X G (.returned (.int .i64 0)) (w3.setCell ⟨b3, 0, none⟩ (.slice E' (O.length + SL.length) f')) from by
        rw [HG.out]
        refine ⟨rfl, ⟨E', f', ?_, ?_⟩, Below.setCell (p := ⟨b3, 0, none⟩) hB3 (Nat.le_refl _) _, ?_⟩
        · rw [List.length_append]
          exact heap_setCell_same w3 b3 0 _ _ _ hrow3
        · rw [List.length_append, List.map_append]
          exact own_cell hO3 h3X
        · have := hg3.size
          have := HB2.out.size
          have : (w3.setCell ⟨b3, 0, none⟩ (.slice E' (O.length + SL.length) f')).heap.size = w3.heap.size := by simp [World.setCell]
          omega)
      clear hO3 hg3 hB3 hrow3 c3 z3
      go_wp2_with fail
      refine bodyPost_ret (results_tmp rfl _ _ _) rfl ?_
      exact HX.out
  · rw [if_neg hS] at hG
    have E0 : ((SE : Int) != 0) = true := by rw [bne_iff_ne]; omega
    have HG := hide hG
    clear hG hS
    go_enter Try.func99, Try.ntmps99
    go_wp2_with fail
    refine (HSt.out _ HB.out).mono ?_
    rintro e w2 ⟨D, d, rfl, hcd, hRd, hb2⟩
    have HO2 := hide (HO.out.step hb2)
    have HB2 := hide (HB.out.trans (hb2.mono HB.out.size))
    clear hcd hRd hb2 c1 c2
    go_wp2_with fail
    refine bodyPost_ret (results_tmp rfl _ _ _) rfl ?_
    rw [HG.out]
    exact ⟨rfl, HO2.out, HB2.out.mono (by omega), HB2.out.size⟩
end Go.Proofs.Ytobgbheodlpclaa
/-
  patch.each with patch.Apply's function; patch.Apply.
-/
namespace Go.Proofs.Ytobgbheodlpclaa
open Go.RowKit
set_option maxRecDepth 100000

theorem goAll_drop (l : List UInt8) (size : Int) (T : List Tk) (i : Nat) (t : Tk) (O : List UInt8) (h : T[i]? = some t) :
    goAll l size (T.drop i) O = if (goStep l size t O).1 = 0 then goAll l size (T.drop (i + 1)) (goStep l size t O).2 else goStep l size t O := by
  obtain ⟨hlt, e⟩ := List.getElem?_eq_some_iff.1 h
  rw [List.drop_eq_getElem_cons hlt, e]
  rfl

set_option maxHeartbeats 8000000 in
theorem each_any (b1 b2 b3 X B : Nat) (A : Option Addr) (l : List UInt8) (c : Nat) (size : Int) (C : Option Addr) (T : List Tk) (d : Nat) (w : World) (h13 : b1 < b3) (h23 : b2 < b3) (h3X : b3 < X) (hX : X ≤ w.heap.size) (hBb : B ≤ b3)
    (h1 : w.heap[b1]? = some (.cells #[.slice A l.length c] 22 (0, 0))) (h2 : w.heap[b2]? = some (.cells #[.int .i64 size] 3 (0, 0))) (hO : AP w b3 X []) (hR : RdB w B A l) (hc : Caps A l.length c) (hl : l.length ≤ 1000000)
    (hT : RdT w B C T) (hTl : T.length ≤ 1000000) :
    Calls Try.prog 98 #[.slice C T.length d, .func (.func 99) #[] #[.pointer (some ⟨b1, 0, none⟩), .pointer (some ⟨b2, 0, none⟩), .pointer (some ⟨b3, 0, none⟩)]] w (One w b3 X (goAll l size T [])) := by
  have HO := hide hO
  have HOne := hide (fun (W : World) (hb : Below b3 w W) (hs : w.heap.size ≤ W.heap.size) (t : Tk) (O : List UInt8) (hO : AP W b3 X O) (hOl : O.length ≤ 16384) =>
    applyOne_any b1 b2 b3 X B A l c size t O W h13 h23 h3X (by omega) hBb ((hb.block b1 h13).trans h1) ((hb.block b2 h23).trans h2) hO (hR.below hb hBb) hc hl hOl)
  have HT := hide (fun (W : World) (hb : Below b3 w W) => hT.below hb hBb)
  have HV := hide (show goAll l size (T.drop 0) [] = goAll l size T [] by rw [List.drop_zero])
  generalize goAll l size T [] = V at HV ⊢
  clear hO h1 h2 hR hT hc
  go_enter Try.func98, Try.ntmps98
  go_wp2_with fail
  go_loopg [10] T.length (fun gk iv wr => ∃ (i : Nat) (O : List UInt8), iv = .int .i64 i ∧ i + gk = T.length ∧ O.length ≤ 16384 ∧ Hid (AP wr b3 X O) ∧ Hid (Below b3 w wr) ∧ Hid (w.heap.size ≤ wr.heap.size) ∧ Hid (goAll l size (T.drop i) O = V))
  case atStart => exact ⟨0, [], rfl, by omega, by simp, HO, hide (Below.refl _ _), hide (Nat.le_refl _), HV⟩
  case round =>
    obtain ⟨i, O, rfl, hig, hOl, HA, HB, HS, HQ⟩ := hrel
    clear HV HO
    cases gk with
    | zero =>
      obtain rfl : i = T.length := by omega
      have HX := hide (show One w b3 X V (.returned (.int .i64 0)) wr from by
        have h := HQ.out
        rw [List.drop_length] at h
        rw [← h]
        exact ⟨rfl, HA.out, HB.out, HS.out⟩)
      clear HQ
      go_wp2_with fail
      refine bodyPost_ret (results_tmp rfl _ _ _) rfl ?_
      exact HX.out
    | succ g0 =>
      have hii : (i : Int) < T.length := by omega
      have hi0 : (0 : Int) ≤ (i : Int) := by omega
      obtain ⟨t, ht⟩ : ∃ t, T[i]? = some t := ⟨_, List.getElem?_eq_getElem (by omega)⟩
      obtain ⟨ad, rfl, hlt, hnd⟩ := (HT.out _ HB.out) i t ht
      have hd := HQ.out
      rw [goAll_drop l size T i t O ht] at hd
      have hiw : IntKind.i64.wrap ((i : Int) + 1) = ((i + 1 : Nat) : Int) := by rw [IntWalk.i64_in _ (by omega)]; rfl
      obtain ⟨c0, c1, c2⟩ := hnd
      have hBA := (Below.refl wr.heap.size wr).alloc (Nat.le_refl _) (.cells t.cells 71)
      have hb3 : b3 ≤ wr.heap.size := by have := HS.out; omega
      have hOneHere := HOne.out _ (HB.out.trans (hBA.mono hb3)) (Nat.le_trans HS.out hBA.size) t O (HA.out.step hBA) hOl
      have HBA := hide (HB.out.trans (hBA.mono hb3))
      have HSA := hide (Nat.le_trans HS.out hBA.size)
      have hGl := goStep_len l size t O hOl
      generalize goStep l size t O = p at hd hOneHere hGl
      obtain ⟨pe, po⟩ := p
      obtain ⟨fr, many, data⟩ := t
      simp only [Tk.cells] at c0 c1 c2 hd hGl hOneHere HBA HSA
      have HH := hide hOneHere
      clear hOneHere hBA ht hb3
      by_cases hp : pe = 0
      · rw [if_pos hp] at hd
        subst hp
        have HD := hide hd
        clear hd
        go_wp2_with fail
        refine HH.out.mono ?_
        rintro e w3 ⟨rfl, hA3, hB3, hS3⟩
        have HA3 := hide hA3
        have HB3 := hide (HBA.out.trans hB3)
        have HS3 := hide (Nat.le_trans HSA.out hS3)
        clear hA3 hB3 hS3 c0 c1 c2
        go_wp2_with fail
        go_roundg g0
        case rel => exact ⟨i + 1, po, rfl, by omega, hGl, HA3, HB3, HS3, HD⟩
        case measure => omega
      · rw [if_neg hp] at hd
        have E0 : ((pe : Int) != 0) = true := by rw [bne_iff_ne]; omega
        have HD := hide hd
        clear hd hp
        go_wp2_with fail
        refine HH.out.mono ?_
        rintro e w3 ⟨rfl, hA3, hB3, hS3⟩
        have HX := hide (show One w b3 X V (.returned (.int .i64 pe)) w3 from by rw [← HD.out]; exact ⟨rfl, hA3, HBA.out.trans hB3, Nat.le_trans HSA.out hS3⟩)
        clear hA3 hB3 hS3 c0 c1 c2
        go_wp2_with fail
        refine bodyPost_ret (results_tmp rfl _ _ _) rfl ?_
        exact HX.out

/-- What is wrong first with tokens, and the bytes that they stand for. -/
def applyE (l : List UInt8) (size : Int) (T : List Tk) : Nat := (goAll l size T []).1
def applyL (l : List UInt8) (size : Int) (T : List Tk) : List UInt8 := if (goAll l size T []).1 = 0 then (goAll l size T []).2 else []

set_option maxHeartbeats 8000000 in
theorem apply_any (A : Option Addr) (l : List UInt8) (c : Nat) (size : Int) (C : Option Addr) (T : List Tk) (d : Nat) (w : World) (hR : RdB w w.heap.size A l) (hc : Caps A l.length c) (hl : l.length ≤ 1000000) (hT : RdT w w.heap.size C T) (hTl : T.length ≤ 1000000) :
    Calls Try.prog 58 #[.slice A l.length c, .int .i64 size, .slice C T.length d] w (Stepped w (applyL l size T) (applyE l size T)) := by
  obtain ⟨o1, ho1⟩ : ∃ o, o = (Obj.cells #[.slice A l.length c] 22) := ⟨_, rfl⟩
  obtain ⟨o2, ho2⟩ : ∃ o, o = (Obj.cells #[.int .i64 size] 3) := ⟨_, rfl⟩
  obtain ⟨o3, ho3⟩ : ∃ o, o = (Obj.cells #[.slice none 0 0] 22) := ⟨_, rfl⟩
  have B1 := (Below.refl w.heap.size w).alloc (Nat.le_refl _) o1
  have B2 := (Below.refl (w.alloc o1).heap.size (w.alloc o1)).alloc (Nat.le_refl _) o2
  have B3 := (Below.refl ((w.alloc o1).alloc o2).heap.size ((w.alloc o1).alloc o2)).alloc (Nat.le_refl _) o3
  have r1 := ((B2.trans (B3.mono B2.size)).block w.heap.size (by simp)).trans (World.alloc_heap_new w o1)
  have r2 := (B3.block (w.alloc o1).heap.size (by simp)).trans (World.alloc_heap_new (w.alloc o1) o2)
  have r3 := World.alloc_heap_new ((w.alloc o1).alloc o2) o3
  have B0 := B1.trans ((B2.trans (B3.mono B2.size)).mono B1.size)
  simp only [World.size_alloc] at r2 r3
  have hz := show (((w.alloc o1).alloc o2).alloc o3).heap.size = w.heap.size + 1 + 1 + 1 by simp
  have hE : applyE l size T = (goAll l size T []).1 := rfl
  have hL : applyL l size T = if (goAll l size T []).1 = 0 then (goAll l size T []).2 else [] := rfl
  have HE := hide (fun (W : World) (hb : Below w.heap.size w W) (hs : w.heap.size + 1 + 1 + 1 ≤ W.heap.size) q1 q2 q3 => each_any w.heap.size (w.heap.size + 1) (w.heap.size + 1 + 1) (w.heap.size + 1 + 1 + 1) w.heap.size A l c size C T d W (by omega) (by omega) (by omega) hs (by omega) q1 q2 q3 (hR.below hb (Nat.le_refl _)) hc hl (hT.below hb (Nat.le_refl _)) hTl)
  generalize applyE l size T = SE at hE ⊢
  generalize applyL l size T = SL at hL ⊢
  generalize goAll l size T [] = p at hE hL HE
  obtain ⟨pe, po⟩ := p
  simp only at hE hL
  have HSE := hide hE
  have HSL := hide hL
  clear hE hL hR hT hc B1 B2 B3
  go_enter Try.func58, Try.ntmps58
  go_wp2_with fail
  rw [← ho1, ← ho2, ← ho3]
  generalize ((w.alloc o1).alloc o2).alloc o3 = w3 at r1 r2 r3 B0 hz ⊢
  rw [ho1] at r1
  rw [ho2] at r2
  rw [ho3] at r3
  clear ho1 ho2 ho3
  have HB0 := hide B0
  have HEe := hide (HE.out w3 B0 (by omega) r1 r2 ⟨none, 0, r3, World.ownsRow_nil _ _ _ _⟩)
  clear HE B0 r1 r2 r3 hz
  refine HEe.out.mono ?_
  rintro e w4 ⟨rfl, hA4, hB4, hS4⟩
  have HB4 := hide (HB0.out.trans (hB4.mono (by omega)))
  obtain ⟨D, f, hrow, hown⟩ := hA4
  have c4 : w4.cell? ⟨w.heap.size + 1 + 1, 0, none⟩ = some (.slice D po.length f) := cell_of_row _ _ _ _ _ _ hrow
  have HCap := hide (ownsRow_caps hown)
  have HRd := hide (RdB.own hown)
  clear hB4 hS4 hrow hown
  by_cases hp : pe = 0
  · have HX := hide (show Stepped w SL SE (.returned (.tuple #[.slice D po.length f, .int .i64 0])) w4 from by
      rw [HSL.out, HSE.out, if_pos hp, hp]
      exact ⟨D, f, rfl, HCap.out, HRd.out, HB4.out⟩)
    have E0 : ((pe : Int) != 0) = false := by rw [bne_eq_false_iff_eq]; omega
    clear hp
    go_wp2_with fail
    refine bodyPost_ret (results_tmp2 rfl _ _ _) rfl ?_
    exact HX.out
  · have HX := hide (show Stepped w SL SE (.returned (.tuple #[.slice none 0 0, .int .i64 pe])) w4 from by
      rw [HSL.out, HSE.out, if_neg hp]
      exact Stepped.none _ _ _ HB4.out)
    have E0 : ((pe : Int) != 0) = true := by rw [bne_iff_ne]; omega
    clear hp
    go_wp2_with fail
    refine bodyPost_ret (results_tmp2 rfl _ _ _) rfl ?_
    exact HX.out
end Go.Proofs.Ytobgbheodlpclaa
