/-
  patch.each with patch.Apply's function; patch.Apply.
-/
import Derived.Test.YtdkdnfcmlnfkcaaPtOne
import Derived.Test.YtdkdnfcmlnfkcaaTkTo
namespace Go.Proofs.Ytdkdnfcmlnfkcaa
open Go.RowKit
set_option maxRecDepth 100000

theorem goAll_drop (l : List UInt8) (size : Int) (T : List Tk) (i : Nat) (t : Tk) (O : List UInt8) (h : T[i]? = some t) :
    goAll l size (T.drop i) O = if (goStep l size t O).1 = 0 then goAll l size (T.drop (i + 1)) (goStep l size t O).2 else goStep l size t O := by
  obtain ⟨hlt, e⟩ := List.getElem?_eq_some_iff.1 h
  rw [List.drop_eq_getElem_cons hlt, e]
  rfl

set_option maxHeartbeats 8000000 in
theorem each_any (b1 b2 b3 X B : Nat) (A : Option Addr) (l : List UInt8) (c : Nat) (size : Int) (C : Option Addr) (T : List Tk) (d : Nat) (w : World) (h13 : b1 < b3) (h23 : b2 < b3) (h3X : b3 < X) (hX : X ≤ w.heap.size) (hBb : B ≤ b3)
    (h1 : w.heap[b1]? = some (.cells #[.slice A l.length c] 22 (0, 0))) (h2 : w.heap[b2]? = some (.cells #[.int .i64 size] 3 (0, 0))) (hO : AP w b3 X []) (hR : RdB w B A l) (hc : Caps A l.length c) (hl : l.length ≤ 1000000)
    (hT : RdT w B C T) (hTl : T.length ≤ 1000000) :
    Calls Try.prog 98 #[.slice C T.length d, .func (.func 99) #[] #[.pointer (some ⟨b1, 0, none⟩), .pointer (some ⟨b2, 0, none⟩), .pointer (some ⟨b3, 0, none⟩)]] w (One w b3 X (goAll l size T [])) := by
  have HO := hide hO
  have HOne := hide (fun (W : World) (hb : Below b3 w W) (hs : w.heap.size ≤ W.heap.size) (t : Tk) (O : List UInt8) (hO : AP W b3 X O) (hOl : O.length ≤ 16384) =>
    applyOne_any b1 b2 b3 X B A l c size t O W h13 h23 h3X (by omega) hBb ((hb.block b1 h13).trans h1) ((hb.block b2 h23).trans h2) hO (hR.below hb hBb) hc hl hOl)
  have HT := hide (fun (W : World) (hb : Below b3 w W) => hT.below hb hBb)
  have HV := hide (show goAll l size (T.drop 0) [] = goAll l size T [] by rw [List.drop_zero])
  generalize goAll l size T [] = V at HV ⊢
  clear hO h1 h2 hR hT hc
  go_enter Try.func98, Try.ntmps98
  go_wp2_with fail
  go_loopg [10] T.length (fun gk iv wr => ∃ (i : Nat) (O : List UInt8), iv = .int .i64 i ∧ i + gk = T.length ∧ O.length ≤ 16384 ∧ Hid (AP wr b3 X O) ∧ Hid (Below b3 w wr) ∧ Hid (w.heap.size ≤ wr.heap.size) ∧ Hid (goAll l size (T.drop i) O = V))
  case atStart => exact ⟨0, [], rfl, by omega, by simp, HO, hide (Below.refl _ _), hide (Nat.le_refl _), HV⟩
  case round =>
    obtain ⟨i, O, rfl, hig, hOl, HA, HB, HS, HQ⟩ := hrel
    clear HV HO
    cases gk with
    | zero =>
      obtain rfl : i = T.length := by omega
      have HX := hide (show One w b3 X V (.returned (.int .i64 0)) wr from by
        have h := HQ.out
        rw [List.drop_length] at h
        rw [← h]
        exact ⟨rfl, HA.out, HB.out, HS.out⟩)
      clear HQ
      go_wp2_with fail
      refine bodyPost_ret (results_tmp rfl _ _ _) rfl ?_
      exact HX.out
    | succ g0 =>
      have hii : (i : Int) < T.length := by omega
      have hi0 : (0 : Int) ≤ (i : Int) := by omega
      obtain ⟨t, ht⟩ : ∃ t, T[i]? = some t := ⟨_, List.getElem?_eq_getElem (by omega)⟩
      obtain ⟨ad, rfl, hlt, hnd⟩ := (HT.out _ HB.out) i t ht
      have hd := HQ.out
      rw [goAll_drop l size T i t O ht] at hd
      have hiw : IntKind.i64.wrap ((i : Int) + 1) = ((i + 1 : Nat) : Int) := by rw [IntWalk.i64_in _ (by omega)]; rfl
      obtain ⟨c0, c1, c2⟩ := hnd
      have hBA := (Below.refl wr.heap.size wr).alloc (Nat.le_refl _) (.cells t.cells 71)
      have hb3 : b3 ≤ wr.heap.size := by have := HS.out; omega
      have hOneHere := HOne.out _ (HB.out.trans (hBA.mono hb3)) (Nat.le_trans HS.out hBA.size) t O (HA.out.step hBA) hOl
      have HBA := hide (HB.out.trans (hBA.mono hb3))
      have HSA := hide (Nat.le_trans HS.out hBA.size)
      have hGl := goStep_len l size t O hOl
      generalize goStep l size t O = p at hd hOneHere hGl
      obtain ⟨pe, po⟩ := p
      obtain ⟨fr, many, data⟩ := t
      simp only [Tk.cells] at c0 c1 c2 hd hGl hOneHere HBA HSA
      have HH := hide hOneHere
      clear hOneHere hBA ht hb3
      by_cases hp : pe = 0
      · rw [if_pos hp] at hd
        subst hp
        have HD := hide hd
        clear hd
        go_wp2_with fail
        refine HH.out.mono ?_
        rintro e w3 ⟨rfl, hA3, hB3, hS3⟩
        have HA3 := hide hA3
        have HB3 := hide (HBA.out.trans hB3)
        have HS3 := hide (Nat.le_trans HSA.out hS3)
        clear hA3 hB3 hS3 c0 c1 c2
        go_wp2_with fail
        go_roundg g0
        case rel => exact ⟨i + 1, po, rfl, by omega, hGl, HA3, HB3, HS3, HD⟩
        case measure => omega
      · rw [if_neg hp] at hd
        have E0 : ((pe : Int) != 0) = true := by rw [bne_iff_ne]; omega
        have HD := hide hd
        clear hd hp
        go_wp2_with fail
        refine HH.out.mono ?_
        rintro e w3 ⟨rfl, hA3, hB3, hS3⟩
        have HX := hide (show One w b3 X V (.returned (.int .i64 pe)) w3 from by rw [← HD.out]; exact ⟨rfl, hA3, HBA.out.trans hB3, Nat.le_trans HSA.out hS3⟩)
        clear hA3 hB3 hS3 c0 c1 c2
        go_wp2_with fail
        refine bodyPost_ret (results_tmp rfl _ _ _) rfl ?_
        exact HX.out

/-- What is wrong first with tokens, and the bytes that they stand for. -/
def applyE (l : List UInt8) (size : Int) (T : List Tk) : Nat := (goAll l size T []).1
def applyL (l : List UInt8) (size : Int) (T : List Tk) : List UInt8 := if (goAll l size T []).1 = 0 then (goAll l size T []).2 else []

set_option maxHeartbeats 8000000 in
theorem apply_any (A : Option Addr) (l : List UInt8) (c : Nat) (size : Int) (C : Option Addr) (T : List Tk) (d : Nat) (w : World) (hR : RdB w w.heap.size A l) (hc : Caps A l.length c) (hl : l.length ≤ 1000000) (hT : RdT w w.heap.size C T) (hTl : T.length ≤ 1000000) :
    Calls Try.prog 58 #[.slice A l.length c, .int .i64 size, .slice C T.length d] w (Stepped w (applyL l size T) (applyE l size T)) := by
  obtain ⟨o1, ho1⟩ : ∃ o, o = (Obj.cells #[.slice A l.length c] 22) := ⟨_, rfl⟩
  obtain ⟨o2, ho2⟩ : ∃ o, o = (Obj.cells #[.int .i64 size] 3) := ⟨_, rfl⟩
  obtain ⟨o3, ho3⟩ : ∃ o, o = (Obj.cells #[.slice none 0 0] 22) := ⟨_, rfl⟩
  have B1 := (Below.refl w.heap.size w).alloc (Nat.le_refl _) o1
  have B2 := (Below.refl (w.alloc o1).heap.size (w.alloc o1)).alloc (Nat.le_refl _) o2
  have B3 := (Below.refl ((w.alloc o1).alloc o2).heap.size ((w.alloc o1).alloc o2)).alloc (Nat.le_refl _) o3
  have r1 := ((B2.trans (B3.mono B2.size)).block w.heap.size (by simp)).trans (World.alloc_heap_new w o1)
  have r2 := (B3.block (w.alloc o1).heap.size (by simp)).trans (World.alloc_heap_new (w.alloc o1) o2)
  have r3 := World.alloc_heap_new ((w.alloc o1).alloc o2) o3
  have B0 := B1.trans ((B2.trans (B3.mono B2.size)).mono B1.size)
  simp only [World.size_alloc] at r2 r3
  have hz := show (((w.alloc o1).alloc o2).alloc o3).heap.size = w.heap.size + 1 + 1 + 1 by simp
  have hE : applyE l size T = (goAll l size T []).1 := rfl
  have hL : applyL l size T = if (goAll l size T []).1 = 0 then (goAll l size T []).2 else [] := rfl
  have HE := hide (fun (W : World) (hb : Below w.heap.size w W) (hs : w.heap.size + 1 + 1 + 1 ≤ W.heap.size) q1 q2 q3 => each_any w.heap.size (w.heap.size + 1) (w.heap.size + 1 + 1) (w.heap.size + 1 + 1 + 1) w.heap.size A l c size C T d W (by omega) (by omega) (by omega) hs (by omega) q1 q2 q3 (hR.below hb (Nat.le_refl _)) hc hl (hT.below hb (Nat.le_refl _)) hTl)
  generalize applyE l size T = SE at hE ⊢
  generalize applyL l size T = SL at hL ⊢
  generalize goAll l size T [] = p at hE hL HE
  obtain ⟨pe, po⟩ := p
  simp only at hE hL
  have HSE := hide hE
  have HSL := hide hL
  clear hE hL hR hT hc B1 B2 B3
  go_enter Try.func58, Try.ntmps58
  go_wp2_with fail
  rw [← ho1, ← ho2, ← ho3]
  generalize ((w.alloc o1).alloc o2).alloc o3 = w3 at r1 r2 r3 B0 hz ⊢
  rw [ho1] at r1
  rw [ho2] at r2
  rw [ho3] at r3
  clear ho1 ho2 ho3
  have HB0 := hide B0
  have HEe := hide (HE.out w3 B0 (by omega) r1 r2 ⟨none, 0, r3, World.ownsRow_nil _ _ _ _⟩)
  clear HE B0 r1 r2 r3 hz
  refine HEe.out.mono ?_
  rintro e w4 ⟨rfl, hA4, hB4, hS4⟩
  have HB4 := hide (HB0.out.trans (hB4.mono (by omega)))
  obtain ⟨D, f, hrow, hown⟩ := hA4
  have c4 : w4.cell? ⟨w.heap.size + 1 + 1, 0, none⟩ = some (.slice D po.length f) := cell_of_row _ _ _ _ _ _ hrow
  have HCap := hide (ownsRow_caps hown)
  have HRd := hide (RdB.own hown)
  clear hB4 hS4 hrow hown
  by_cases hp : pe = 0
  · have HX := hide (show Stepped w SL SE (.returned (.tuple #[.slice D po.length f, .int .i64 0])) w4 from by
      rw [HSL.out, HSE.out, if_pos hp, hp]
      exact ⟨D, f, rfl, HCap.out, HRd.out, HB4.out⟩)
    have E0 : ((pe : Int) != 0) = false := by rw [bne_eq_false_iff_eq]; omega
    clear hp
    go_wp2_with fail
    refine bodyPost_ret (results_tmp2 rfl _ _ _) rfl ?_
    exact HX.out
  · have HX := hide (show Stepped w SL SE (.returned (.tuple #[.slice none 0 0, .int .i64 pe])) w4 from by
      rw [HSL.out, HSE.out, if_neg hp]
      exact Stepped.none _ _ _ HB4.out)
    have E0 : ((pe : Int) != 0) = true := by rw [bne_iff_ne]; omega
    clear hp
    go_wp2_with fail
    refine bodyPost_ret (results_tmp2 rfl _ _ _) rfl ?_
    exact HX.out
end Go.Proofs.Ytdkdnfcmlnfkcaa
