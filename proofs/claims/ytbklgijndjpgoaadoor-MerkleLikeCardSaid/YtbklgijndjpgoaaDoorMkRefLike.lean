/-
  The reference's Like.
-/
import Derived.Test.YtbklgijndjpgoaaDoorMkMoved
import Derived.Test.YtbklgijndjpgoaaDoorMkSame
import Derived.Test.YtbklgijndjpgoaaDoorMkAlike
namespace Go.Proofs.YtbklgijndjpgoaaDoor
open Go.RowKit
set_option maxRecDepth 100000

/-- What is at a path, by At. -/
theorem top_at (a : List Nd) (p : ByteArray) : (p.toList.isEmpty = true ∧ topL p a = (rootNd, true)) ∨ (p.toList.isEmpty = false ∧ atL p a = -1 ∧ topL p a = (zeroNd, false)) ∨
    (∃ k n, p.toList.isEmpty = false ∧ atL p a = ((k : Nat) : Int) ∧ a[k]? = some n ∧ topL p a = (n, true)) := by
  cases he : p.toList.isEmpty with
  | true => exact .inl ⟨rfl, by unfold topL; rw [if_pos he]⟩
  | false =>
    right
    have e : topL p a = findL p a := by unfold topL; rw [he, if_neg (by decide)]
    rcases at_cases p a with h | ⟨k, n, h, hn, _⟩
    · exact .inl ⟨rfl, h, by rw [e]; unfold findL; rw [if_pos (by omega)]⟩
    · refine .inr ⟨k, n, rfl, h, hn, ?_⟩
      rw [e]
      unfold findL
      rw [if_neg (by omega), h, Int.toNat_natCast, List.getD_eq_getElem?_getD, hn]; rfl
theorem like_bool (a b : List Nd) (p q : ByteArray) : likeL a p b q = ((topL p a).2 && ((topL q b).2 && (((topL p a).1.kind == (topL q b).1.kind) && (((topL p a).1.data.toList == (topL q b).1.data.toList) && listB (undersL p a) (undersL q b))))) := by
  rw [Bool.eq_iff_iff, like_iff]
  simp only [Bool.and_eq_true, beq_iff_eq, listB_iff]
  have h : ∀ p q : ByteArray, p.toList = q.toList ↔ p = q := fun p q => ⟨fun h => toL_inj (by rw [← toL_list, ← toL_list, h]), fun h => by rw [h]⟩
  rw [h]

theorem setCell_grown (w : World) (n o : Nat) (v : Value) : w.grownBy (w.setCell ⟨n, o, none⟩ v) (some n) :=
  ⟨rfl, rfl, rfl, by simp, fun k _ hk => Below.heap_setCell w ⟨n, o, none⟩ v k (by simpa using hk)⟩
theorem set_five' (w3 : World) (n : Nat) (a b c d e x y z u v : Value) (t : TypeId) (h : w3.heap[n]? = some (.cells #[a, b, c, d, e] t (0, 0))) :
    ∃ W, W = ((((w3.setCell ⟨n, 0, none⟩ x).setCell ⟨n, 1, none⟩ y).setCell ⟨n, 2, none⟩ z).setCell ⟨n, 3, none⟩ u).setCell ⟨n, 4, none⟩ v ∧ W.heap[n]? = some (.cells #[x, y, z, u, v] t (0, 0)) ∧ w3.grownBy W (some n) := by
  have h1 := heap_setCell_same w3 n 0 _ _ x h
  have h2 := heap_setCell_same _ n 1 _ _ y h1
  have h3 := heap_setCell_same _ n 2 _ _ z h2
  have h4 := heap_setCell_same _ n 3 _ _ u h3
  have h5 := heap_setCell_same _ n 4 _ _ v h4
  exact ⟨_, rfl, h5, ((((setCell_grown w3 n 0 x).trans (setCell_grown _ n 1 y)).trans (setCell_grown _ n 2 z)).trans (setCell_grown _ n 3 u)).trans (setCell_grown _ n 4 v)⟩

set_option maxHeartbeats 32000000 in
theorem refLike_any (A D : Option Addr) (a b : List Nd) (c d : Nat) (p q : ByteArray) (w : World) (hA : RdN w w.heap.size A a) (hD : RdN w w.heap.size D b) (hfa : FewN a) (hfb : FewN b) (ha : (a.length : Int) ≤ 1000) (hb : (b.length : Int) ≤ 1000)
    (hp : (p.size : Int) ≤ 1000000) (hq : (q.size : Int) ≤ 1000000) :
    Calls Tryd.prog 15 #[.slice A a.length c, .string p, .slice D b.length d, .string q] w fun e w' => e = .returned (.bool (likeL a p b q)) ∧ Below w.heap.size w w' := by
  have HAt1 := hide (refAt_any A a c p w hA (by omega))
  have HAt2 := hide (fun (W : World) (h : Below w.heap.size w W) => refAt_any D b d q W (hD.step h) (by omega))
  have HX := hide (fun (W : World) (h : Below w.heap.size w W) => refMoved_any A a c p W (hA.step h) hfa ha hp)
  have HY := hide (fun (W : World) (h : Below w.heap.size w W) => refMoved_any D b d q W (hD.step h) hfb hb hq)
  have HA := hide hA
  have HD := hide hD
  have HL := hide (like_bool a b p q)
  have hT1 := top_at a p
  have hT2 := top_at b q
  have hpe : ∀ p : ByteArray, p.toList.isEmpty = true → (p.toList == []) = true := fun p h => by rw [List.isEmpty_iff.1 h]; rfl
  have hpn : ∀ p : ByteArray, p.toList.isEmpty = false → (p.toList == []) = false := fun p h => by cases hc : p.toList with | nil => rw [hc] at h; cases h | cons a b => rfl
  generalize likeL a p b q = V at HL ⊢
  generalize atL p a = i at HAt1 hT1
  generalize atL q b = k at HAt2 hT2
  have HLx := hide (show (undersL p a).length ≤ 1000 by have := List.length_filter_le (under p) a; unfold undersL; rw [List.length_map]; omega)
  generalize undersL p a = x at HX HL HLx
  generalize undersL q b = y at HY HL
  generalize topL p a = S at hT1 HL
  generalize topL q b = T at hT2 HL
  clear hA hD hfa hfb
  go_enter Tryd.func15, Tryd.ntmps15
  go_wp2_with fail
  refine HAt1.out.mono ?_
  rintro e w1 ⟨rfl, hb1⟩
  have HAt3 := hide (HAt2.out w1 hb1)
  clear HAt1 HAt2
  go_wp2_with fail
  refine HAt3.out.mono ?_
  rintro e w2 ⟨rfl, hb2⟩
  have HB := hide (hb1.trans (hb2.mono hb1.size))
  clear HAt3 hb1 hb2
  have hlx : x.length ≤ 1000 := HLx.out
  rcases hT1 with ⟨g1, rfl⟩ | ⟨g1, rfl, rfl⟩ | ⟨i0, n, g1, rfl, hn, rfl⟩
  · rcases hT2 with ⟨g2, rfl⟩ | ⟨g2, rfl, rfl⟩ | ⟨k0, m, g2, rfl, hm, rfl⟩
    · have h1 := hpe _ g1
      have h2 := hpe _ g2
      obtain ⟨r0, r1, hBX⟩ := two_rows w2 #[.string ⟨#[]⟩, .int .i64 1, .int .i64 0, .int .i64 0, .string ⟨#[]⟩] #[.string ⟨#[]⟩, .int .i64 1, .int .i64 0, .int .i64 0, .string ⟨#[]⟩] 34 34
      clear hpe hpn
      go_upto_if 36 with fail
      generalize (w2.alloc (.cells #[.string ⟨#[]⟩, .int .i64 1, .int .i64 0, .int .i64 0, .string ⟨#[]⟩] 34)).alloc (.cells #[.string ⟨#[]⟩, .int .i64 1, .int .i64 0, .int .i64 0, .string ⟨#[]⟩] 34) = X at r0 r1 hBX ⊢
      have hw2 := HB.out.size
      have hBwX := HB.out.trans (hBX.mono hw2)
      obtain ⟨Y, hY⟩ : ∃ Y, Y = X := ⟨X, rfl⟩
      subst hY
      have s0 := r0
      have s1 := r1
      have hBY := hBwX
      have hB2Y := hBX
      go_upto_if 42 with fail
      clear r0 r1
      have u0 := s0
      have u1 := s1
      have hBZ := hBY
      have f1 := cell_of_row _ _ 1 _ _ _ u0
      have f4 := cell_of_row _ _ 4 _ _ _ u0
      have j1 := cell_of_row _ _ 1 _ _ _ u1
      have j4 := cell_of_row _ _ 4 _ _ _ u1
      have HBZ := hide hBZ
      have HX2 := hide (HX.out _ hBZ)
      clear hBZ HX hB2Y hBY hBwX hBX u0 u1 s0 s1
      have HV := hide (show V = listB x y by rw [HL.out]; simp)
      clear HL
      go_wp2_with fail
      refine HX2.out.mono ?_
      rintro e w5 ⟨v, rfl, hNx⟩
      obtain ⟨E, f, rfl⟩ := ownsRow_slice hNx.own
      have HB5 := hide (HBZ.out.trans (hNx.below.mono HBZ.out.size))
      have HY5 := hide (HY.out w5 HB5.out)
      have HRx := hide (RdN.own hNx.own)
      clear HX2 HY HBZ hNx
      go_wp2_with fail
      refine HY5.out.mono ?_
      rintro e w6 ⟨v, rfl, hNy⟩
      obtain ⟨G, g, rfl⟩ := ownsRow_slice hNy.own
      have HS := hide (refSame_any E G x y f g w6 (HRx.out.step hNy.below) (RdN.own hNy.own) (by omega))
      have HB6 := hide (HB5.out.trans (hNy.below.mono HB5.out.size))
      clear HY5 HRx HB5 hNy
      go_wp2_with fail
      refine HS.out.mono ?_
      rintro e w7 ⟨rfl, hb7⟩
      have HB7 := hide (HB6.out.trans (hb7.mono HB6.out.size))
      clear HS HB6 hb7
      go_wp2_with fail
      exact bodyPost_ret (results_tmp rfl _ _ _) rfl ⟨by rw [HV.out]; rfl, HB7.out⟩
    · have h1 := hpe _ g1
      have h2 := hpn _ g2
      have HV := hide (show V = false by rw [HL.out]; simp)
      clear HL hpe hpn
      go_wp2_with fail
      exact bodyPost_ret (results_tmp rfl _ _ _) rfl ⟨by rw [HV.out]; rfl, HB.out⟩
    · have h1 := hpe _ g1
      have h2 := hpn _ g2
      obtain ⟨ay, rfl, hlt2, hmd⟩ := (HD.out.below HB.out (Nat.le_refl _)) k0 m hm
      have hk1 : (k0 : Int) < b.length := by have := (List.getElem?_eq_some_iff.1 hm).1; omega
      have hk0 : (0 : Int) ≤ (k0 : Int) := by omega
      obtain ⟨r0, r1, hBX⟩ := two_rows w2 #[.string ⟨#[]⟩, .int .i64 1, .int .i64 0, .int .i64 0, .string ⟨#[]⟩] #[.string ⟨#[]⟩, .int .i64 1, .int .i64 0, .int .i64 0, .string ⟨#[]⟩] 34 34
      clear hpe hpn
      go_upto_if 36 with fail
      generalize (w2.alloc (.cells #[.string ⟨#[]⟩, .int .i64 1, .int .i64 0, .int .i64 0, .string ⟨#[]⟩] 34)).alloc (.cells #[.string ⟨#[]⟩, .int .i64 1, .int .i64 0, .int .i64 0, .string ⟨#[]⟩] 34) = X at r0 r1 hBX ⊢
      have hw2 := HB.out.size
      have hBwX := HB.out.trans (hBX.mono hw2)
      obtain ⟨Y, hY⟩ : ∃ Y, Y = X := ⟨X, rfl⟩
      subst hY
      have s0 := r0
      have s1 := r1
      have hBY := hBwX
      have hB2Y := hBX
      go_upto_if 42 with fail
      clear r0 r1
      have hmY := hmd.below hB2Y (by rw [add_block]; exact Nat.lt_of_lt_of_le hlt2 hw2)
      obtain ⟨e0, e1, e2, e3, e4⟩ := hmY
      clear hmd hm
      obtain ⟨path', kind', mode', time', data'⟩ := m
      simp only at e0 e1 e2 e3 e4 HL
      have z0 : Y.frozen? ⟨w2.heap.size + 1, 0, none⟩ = false := frozen_of_row _ _ _ _ _ s1
      have z1 : Y.frozen? ⟨w2.heap.size + 1, 1, none⟩ = false := frozen_of_row _ _ _ _ _ s1
      have z2 : Y.frozen? ⟨w2.heap.size + 1, 2, none⟩ = false := frozen_of_row _ _ _ _ _ s1
      have z3 : Y.frozen? ⟨w2.heap.size + 1, 3, none⟩ = false := frozen_of_row _ _ _ _ _ s1
      have z4 : Y.frozen? ⟨w2.heap.size + 1, 4, none⟩ = false := frozen_of_row _ _ _ _ _ s1
      have t0 : Y.cell? ⟨w2.heap.size + 1, 0, none⟩ = some (.string ⟨#[]⟩) := cell_of_row _ _ _ _ _ _ s1
      have t1 : Y.cell? ⟨w2.heap.size + 1, 1, none⟩ = some (.int .i64 1) := cell_of_row _ _ _ _ _ _ s1
      have t2 : Y.cell? ⟨w2.heap.size + 1, 2, none⟩ = some (.int .i64 0) := cell_of_row _ _ _ _ _ _ s1
      have t3 : Y.cell? ⟨w2.heap.size + 1, 3, none⟩ = some (.int .i64 0) := cell_of_row _ _ _ _ _ _ s1
      have t4 : Y.cell? ⟨w2.heap.size + 1, 4, none⟩ = some (.string ⟨#[]⟩) := cell_of_row _ _ _ _ _ _ s1
      obtain ⟨Z, hZ, u1, hgZ⟩ := set_five' Y (w2.heap.size + 1) _ _ _ _ _ (.string path') (.int .i64 kind') (.int .i64 mode') (.int .i64 time') (.string data') _ s1
      have u0 := (hgZ.block w2.heap.size (Array.getElem?_eq_some_iff.1 s0).1 (by simp)).trans s0
      have hBZ : Below w.heap.size w Z := hBY.grown hgZ hBY.size (fun k hk => by cases hk; omega)
      subst hZ
      have f1 := cell_of_row _ _ 1 _ _ _ u0
      have f4 := cell_of_row _ _ 4 _ _ _ u0
      have j1 := cell_of_row _ _ 1 _ _ _ u1
      have j4 := cell_of_row _ _ 4 _ _ _ u1
      have HBZ := hide hBZ
      have HX2 := hide (HX.out _ hBZ)
      clear hBZ HX hB2Y hBY hBwX hBX u0 u1 s0 s1 hgZ
      have hl : V = (((1 : Int) == kind') && (((⟨#[]⟩ : ByteArray).toList == (data' : ByteArray).toList) && listB x y)) := by rw [HL.out]; rfl
      clear HL
      cases hk : ((1 : Int) == kind') with
      | false =>
        have HV := hide (show V = false by rw [hl]; rw [hk]; rfl)
        clear hl
        go_wp2_with fail
        exact bodyPost_ret (results_tmp rfl _ _ _) rfl ⟨by rw [HV.out]; rfl, HBZ.out⟩
      | true =>
        cases hd : ((⟨#[]⟩ : ByteArray).toList == (data' : ByteArray).toList) with
        | false =>
          have hd2 : (([] : List UInt8) == data'.toList) = false := by rw [← hd, toL_list ⟨#[]⟩]; rfl
          have HV := hide (show V = false by rw [hl]; rw [hk, hd]; rfl)
          clear hl
          go_wp2_with fail
          exact bodyPost_ret (results_tmp rfl _ _ _) rfl ⟨by rw [HV.out]; rfl, HBZ.out⟩
        | true =>
          have hd2 : (([] : List UInt8) == data'.toList) = true := by rw [← hd, toL_list ⟨#[]⟩]; rfl
          have HV := hide (show V = listB x y by rw [hl, hk, hd]; rfl)
          clear hl
          go_wp2_with fail
          refine HX2.out.mono ?_
          rintro e w5 ⟨v, rfl, hNx⟩
          obtain ⟨E, f, rfl⟩ := ownsRow_slice hNx.own
          have HB5 := hide (HBZ.out.trans (hNx.below.mono HBZ.out.size))
          have HY5 := hide (HY.out w5 HB5.out)
          have HRx := hide (RdN.own hNx.own)
          clear HX2 HY HBZ hNx
          go_wp2_with fail
          refine HY5.out.mono ?_
          rintro e w6 ⟨v, rfl, hNy⟩
          obtain ⟨G, g, rfl⟩ := ownsRow_slice hNy.own
          have HS := hide (refSame_any E G x y f g w6 (HRx.out.step hNy.below) (RdN.own hNy.own) (by omega))
          have HB6 := hide (HB5.out.trans (hNy.below.mono HB5.out.size))
          clear HY5 HRx HB5 hNy
          go_wp2_with fail
          refine HS.out.mono ?_
          rintro e w7 ⟨rfl, hb7⟩
          have HB7 := hide (HB6.out.trans (hb7.mono HB6.out.size))
          clear HS HB6 hb7
          go_wp2_with fail
          exact bodyPost_ret (results_tmp rfl _ _ _) rfl ⟨by rw [HV.out]; rfl, HB7.out⟩
  · have h1 := hpn _ g1
    have HV := hide (show V = false by rw [HL.out]; simp)
    clear HL hpe hpn hT2
    go_wp2_with fail
    exact bodyPost_ret (results_tmp rfl _ _ _) rfl ⟨by rw [HV.out]; rfl, HB.out⟩
  · rcases hT2 with ⟨g2, rfl⟩ | ⟨g2, rfl, rfl⟩ | ⟨k0, m, g2, rfl, hm, rfl⟩
    · have h1 := hpn _ g1
      have h2 := hpe _ g2
      obtain ⟨ax, rfl, hlt1, hnd⟩ := (HA.out.below HB.out (Nat.le_refl _)) i0 n hn
      have hi1 : (i0 : Int) < a.length := by have := (List.getElem?_eq_some_iff.1 hn).1; omega
      have hi0 : (0 : Int) ≤ (i0 : Int) := by omega
      obtain ⟨r0, r1, hBX⟩ := two_rows w2 #[.string ⟨#[]⟩, .int .i64 1, .int .i64 0, .int .i64 0, .string ⟨#[]⟩] #[.string ⟨#[]⟩, .int .i64 1, .int .i64 0, .int .i64 0, .string ⟨#[]⟩] 34 34
      clear hpe hpn
      go_upto_if 36 with fail
      generalize (w2.alloc (.cells #[.string ⟨#[]⟩, .int .i64 1, .int .i64 0, .int .i64 0, .string ⟨#[]⟩] 34)).alloc (.cells #[.string ⟨#[]⟩, .int .i64 1, .int .i64 0, .int .i64 0, .string ⟨#[]⟩] 34) = X at r0 r1 hBX ⊢
      have hw2 := HB.out.size
      have hBwX := HB.out.trans (hBX.mono hw2)
      have hnX := hnd.below hBX (by rw [add_block]; exact Nat.lt_of_lt_of_le hlt1 hw2)
      obtain ⟨c0, c1, c2, c3, c4⟩ := hnX
      clear hnd hn
      obtain ⟨path, kind, mode, time, data⟩ := n
      simp only at c0 c1 c2 c3 c4 HL
      have z0 : X.frozen? ⟨w2.heap.size, 0, none⟩ = false := frozen_of_row _ _ _ _ _ r0
      have z1 : X.frozen? ⟨w2.heap.size, 1, none⟩ = false := frozen_of_row _ _ _ _ _ r0
      have z2 : X.frozen? ⟨w2.heap.size, 2, none⟩ = false := frozen_of_row _ _ _ _ _ r0
      have z3 : X.frozen? ⟨w2.heap.size, 3, none⟩ = false := frozen_of_row _ _ _ _ _ r0
      have z4 : X.frozen? ⟨w2.heap.size, 4, none⟩ = false := frozen_of_row _ _ _ _ _ r0
      have t0 : X.cell? ⟨w2.heap.size, 0, none⟩ = some (.string ⟨#[]⟩) := cell_of_row _ _ _ _ _ _ r0
      have t1 : X.cell? ⟨w2.heap.size, 1, none⟩ = some (.int .i64 1) := cell_of_row _ _ _ _ _ _ r0
      have t2 : X.cell? ⟨w2.heap.size, 2, none⟩ = some (.int .i64 0) := cell_of_row _ _ _ _ _ _ r0
      have t3 : X.cell? ⟨w2.heap.size, 3, none⟩ = some (.int .i64 0) := cell_of_row _ _ _ _ _ _ r0
      have t4 : X.cell? ⟨w2.heap.size, 4, none⟩ = some (.string ⟨#[]⟩) := cell_of_row _ _ _ _ _ _ r0
      obtain ⟨Y, hY, s0, hgY⟩ := set_five' X w2.heap.size _ _ _ _ _ (.string path) (.int .i64 kind) (.int .i64 mode) (.int .i64 time) (.string data) _ r0
      have s1 := (hgY.block (w2.heap.size + 1) (Array.getElem?_eq_some_iff.1 r1).1 (by simp)).trans r1
      have hBY : Below w.heap.size w Y := hBwX.grown hgY hBwX.size (fun k hk => by cases hk; exact hw2)
      have hB2Y : Below w2.heap.size w2 Y := hBX.grown hgY hBX.size (fun k hk => by cases hk; exact Nat.le_refl _)
      go_upto_if 42 with fail
      rw [← hY]
      clear hY z0 z1 z2 z3 z4 t0 t1 t2 t3 t4 c0 c1 c2 c3 c4 hgY r0 r1
      have u0 := s0
      have u1 := s1
      have hBZ := hBY
      have f1 := cell_of_row _ _ 1 _ _ _ u0
      have f4 := cell_of_row _ _ 4 _ _ _ u0
      have j1 := cell_of_row _ _ 1 _ _ _ u1
      have j4 := cell_of_row _ _ 4 _ _ _ u1
      have HBZ := hide hBZ
      have HX2 := hide (HX.out _ hBZ)
      clear hBZ HX hB2Y hBY hBwX hBX u0 u1 s0 s1
      have hl : V = (((kind : Int) == 1) && (((data : ByteArray).toList == (⟨#[]⟩ : ByteArray).toList) && listB x y)) := by rw [HL.out]; rfl
      clear HL
      cases hk : ((kind : Int) == 1) with
      | false =>
        have HV := hide (show V = false by rw [hl]; rw [hk]; rfl)
        clear hl
        go_wp2_with fail
        exact bodyPost_ret (results_tmp rfl _ _ _) rfl ⟨by rw [HV.out]; rfl, HBZ.out⟩
      | true =>
        cases hd : ((data : ByteArray).toList == (⟨#[]⟩ : ByteArray).toList) with
        | false =>
          have hd2 : (data.toList == ([] : List UInt8)) = false := by rw [← hd, toL_list ⟨#[]⟩]; rfl
          have HV := hide (show V = false by rw [hl]; rw [hk, hd]; rfl)
          clear hl
          go_wp2_with fail
          exact bodyPost_ret (results_tmp rfl _ _ _) rfl ⟨by rw [HV.out]; rfl, HBZ.out⟩
        | true =>
          have hd2 : (data.toList == ([] : List UInt8)) = true := by rw [← hd, toL_list ⟨#[]⟩]; rfl
          have HV := hide (show V = listB x y by rw [hl, hk, hd]; rfl)
          clear hl
          go_wp2_with fail
          refine HX2.out.mono ?_
          rintro e w5 ⟨v, rfl, hNx⟩
          obtain ⟨E, f, rfl⟩ := ownsRow_slice hNx.own
          have HB5 := hide (HBZ.out.trans (hNx.below.mono HBZ.out.size))
          have HY5 := hide (HY.out w5 HB5.out)
          have HRx := hide (RdN.own hNx.own)
          clear HX2 HY HBZ hNx
          go_wp2_with fail
          refine HY5.out.mono ?_
          rintro e w6 ⟨v, rfl, hNy⟩
          obtain ⟨G, g, rfl⟩ := ownsRow_slice hNy.own
          have HS := hide (refSame_any E G x y f g w6 (HRx.out.step hNy.below) (RdN.own hNy.own) (by omega))
          have HB6 := hide (HB5.out.trans (hNy.below.mono HB5.out.size))
          clear HY5 HRx HB5 hNy
          go_wp2_with fail
          refine HS.out.mono ?_
          rintro e w7 ⟨rfl, hb7⟩
          have HB7 := hide (HB6.out.trans (hb7.mono HB6.out.size))
          clear HS HB6 hb7
          go_wp2_with fail
          exact bodyPost_ret (results_tmp rfl _ _ _) rfl ⟨by rw [HV.out]; rfl, HB7.out⟩
    · have h1 := hpn _ g1
      have h2 := hpn _ g2
      have HV := hide (show V = false by rw [HL.out]; simp)
      clear HL hpe hpn
      go_wp2_with fail
      exact bodyPost_ret (results_tmp rfl _ _ _) rfl ⟨by rw [HV.out]; rfl, HB.out⟩
    · have h1 := hpn _ g1
      have h2 := hpn _ g2
      obtain ⟨ax, rfl, hlt1, hnd⟩ := (HA.out.below HB.out (Nat.le_refl _)) i0 n hn
      have hi1 : (i0 : Int) < a.length := by have := (List.getElem?_eq_some_iff.1 hn).1; omega
      have hi0 : (0 : Int) ≤ (i0 : Int) := by omega
      obtain ⟨ay, rfl, hlt2, hmd⟩ := (HD.out.below HB.out (Nat.le_refl _)) k0 m hm
      have hk1 : (k0 : Int) < b.length := by have := (List.getElem?_eq_some_iff.1 hm).1; omega
      have hk0 : (0 : Int) ≤ (k0 : Int) := by omega
      obtain ⟨r0, r1, hBX⟩ := two_rows w2 #[.string ⟨#[]⟩, .int .i64 1, .int .i64 0, .int .i64 0, .string ⟨#[]⟩] #[.string ⟨#[]⟩, .int .i64 1, .int .i64 0, .int .i64 0, .string ⟨#[]⟩] 34 34
      clear hpe hpn
      go_upto_if 36 with fail
      generalize (w2.alloc (.cells #[.string ⟨#[]⟩, .int .i64 1, .int .i64 0, .int .i64 0, .string ⟨#[]⟩] 34)).alloc (.cells #[.string ⟨#[]⟩, .int .i64 1, .int .i64 0, .int .i64 0, .string ⟨#[]⟩] 34) = X at r0 r1 hBX ⊢
      have hw2 := HB.out.size
      have hBwX := HB.out.trans (hBX.mono hw2)
      have hnX := hnd.below hBX (by rw [add_block]; exact Nat.lt_of_lt_of_le hlt1 hw2)
      obtain ⟨c0, c1, c2, c3, c4⟩ := hnX
      clear hnd hn
      obtain ⟨path, kind, mode, time, data⟩ := n
      simp only at c0 c1 c2 c3 c4 HL
      have z0 : X.frozen? ⟨w2.heap.size, 0, none⟩ = false := frozen_of_row _ _ _ _ _ r0
      have z1 : X.frozen? ⟨w2.heap.size, 1, none⟩ = false := frozen_of_row _ _ _ _ _ r0
      have z2 : X.frozen? ⟨w2.heap.size, 2, none⟩ = false := frozen_of_row _ _ _ _ _ r0
      have z3 : X.frozen? ⟨w2.heap.size, 3, none⟩ = false := frozen_of_row _ _ _ _ _ r0
      have z4 : X.frozen? ⟨w2.heap.size, 4, none⟩ = false := frozen_of_row _ _ _ _ _ r0
      have t0 : X.cell? ⟨w2.heap.size, 0, none⟩ = some (.string ⟨#[]⟩) := cell_of_row _ _ _ _ _ _ r0
      have t1 : X.cell? ⟨w2.heap.size, 1, none⟩ = some (.int .i64 1) := cell_of_row _ _ _ _ _ _ r0
      have t2 : X.cell? ⟨w2.heap.size, 2, none⟩ = some (.int .i64 0) := cell_of_row _ _ _ _ _ _ r0
      have t3 : X.cell? ⟨w2.heap.size, 3, none⟩ = some (.int .i64 0) := cell_of_row _ _ _ _ _ _ r0
      have t4 : X.cell? ⟨w2.heap.size, 4, none⟩ = some (.string ⟨#[]⟩) := cell_of_row _ _ _ _ _ _ r0
      obtain ⟨Y, hY, s0, hgY⟩ := set_five' X w2.heap.size _ _ _ _ _ (.string path) (.int .i64 kind) (.int .i64 mode) (.int .i64 time) (.string data) _ r0
      have s1 := (hgY.block (w2.heap.size + 1) (Array.getElem?_eq_some_iff.1 r1).1 (by simp)).trans r1
      have hBY : Below w.heap.size w Y := hBwX.grown hgY hBwX.size (fun k hk => by cases hk; exact hw2)
      have hB2Y : Below w2.heap.size w2 Y := hBX.grown hgY hBX.size (fun k hk => by cases hk; exact Nat.le_refl _)
      go_upto_if 42 with fail
      rw [← hY]
      clear hY z0 z1 z2 z3 z4 t0 t1 t2 t3 t4 c0 c1 c2 c3 c4 hgY r0 r1
      have hmY := hmd.below hB2Y (by rw [add_block]; exact Nat.lt_of_lt_of_le hlt2 hw2)
      obtain ⟨e0, e1, e2, e3, e4⟩ := hmY
      clear hmd hm
      obtain ⟨path', kind', mode', time', data'⟩ := m
      simp only at e0 e1 e2 e3 e4 HL
      have z0 : Y.frozen? ⟨w2.heap.size + 1, 0, none⟩ = false := frozen_of_row _ _ _ _ _ s1
      have z1 : Y.frozen? ⟨w2.heap.size + 1, 1, none⟩ = false := frozen_of_row _ _ _ _ _ s1
      have z2 : Y.frozen? ⟨w2.heap.size + 1, 2, none⟩ = false := frozen_of_row _ _ _ _ _ s1
      have z3 : Y.frozen? ⟨w2.heap.size + 1, 3, none⟩ = false := frozen_of_row _ _ _ _ _ s1
      have z4 : Y.frozen? ⟨w2.heap.size + 1, 4, none⟩ = false := frozen_of_row _ _ _ _ _ s1
      have t0 : Y.cell? ⟨w2.heap.size + 1, 0, none⟩ = some (.string ⟨#[]⟩) := cell_of_row _ _ _ _ _ _ s1
      have t1 : Y.cell? ⟨w2.heap.size + 1, 1, none⟩ = some (.int .i64 1) := cell_of_row _ _ _ _ _ _ s1
      have t2 : Y.cell? ⟨w2.heap.size + 1, 2, none⟩ = some (.int .i64 0) := cell_of_row _ _ _ _ _ _ s1
      have t3 : Y.cell? ⟨w2.heap.size + 1, 3, none⟩ = some (.int .i64 0) := cell_of_row _ _ _ _ _ _ s1
      have t4 : Y.cell? ⟨w2.heap.size + 1, 4, none⟩ = some (.string ⟨#[]⟩) := cell_of_row _ _ _ _ _ _ s1
      obtain ⟨Z, hZ, u1, hgZ⟩ := set_five' Y (w2.heap.size + 1) _ _ _ _ _ (.string path') (.int .i64 kind') (.int .i64 mode') (.int .i64 time') (.string data') _ s1
      have u0 := (hgZ.block w2.heap.size (Array.getElem?_eq_some_iff.1 s0).1 (by simp)).trans s0
      have hBZ : Below w.heap.size w Z := hBY.grown hgZ hBY.size (fun k hk => by cases hk; omega)
      subst hZ
      have f1 := cell_of_row _ _ 1 _ _ _ u0
      have f4 := cell_of_row _ _ 4 _ _ _ u0
      have j1 := cell_of_row _ _ 1 _ _ _ u1
      have j4 := cell_of_row _ _ 4 _ _ _ u1
      have HBZ := hide hBZ
      have HX2 := hide (HX.out _ hBZ)
      clear hBZ HX hB2Y hBY hBwX hBX u0 u1 s0 s1 hgZ
      have hl : V = (((kind : Int) == kind') && (((data : ByteArray).toList == (data' : ByteArray).toList) && listB x y)) := by rw [HL.out]; rfl
      clear HL
      cases hk : ((kind : Int) == kind') with
      | false =>
        have HV := hide (show V = false by rw [hl]; rw [hk]; rfl)
        clear hl
        go_wp2_with fail
        exact bodyPost_ret (results_tmp rfl _ _ _) rfl ⟨by rw [HV.out]; rfl, HBZ.out⟩
      | true =>
        cases hd : ((data : ByteArray).toList == (data' : ByteArray).toList) with
        | false =>
          have HV := hide (show V = false by rw [hl]; rw [hk, hd]; rfl)
          clear hl
          go_wp2_with fail
          exact bodyPost_ret (results_tmp rfl _ _ _) rfl ⟨by rw [HV.out]; rfl, HBZ.out⟩
        | true =>
          have HV := hide (show V = listB x y by rw [hl, hk, hd]; rfl)
          clear hl
          go_wp2_with fail
          refine HX2.out.mono ?_
          rintro e w5 ⟨v, rfl, hNx⟩
          obtain ⟨E, f, rfl⟩ := ownsRow_slice hNx.own
          have HB5 := hide (HBZ.out.trans (hNx.below.mono HBZ.out.size))
          have HY5 := hide (HY.out w5 HB5.out)
          have HRx := hide (RdN.own hNx.own)
          clear HX2 HY HBZ hNx
          go_wp2_with fail
          refine HY5.out.mono ?_
          rintro e w6 ⟨v, rfl, hNy⟩
          obtain ⟨G, g, rfl⟩ := ownsRow_slice hNy.own
          have HS := hide (refSame_any E G x y f g w6 (HRx.out.step hNy.below) (RdN.own hNy.own) (by omega))
          have HB6 := hide (HB5.out.trans (hNy.below.mono HB5.out.size))
          clear HY5 HRx HB5 hNy
          go_wp2_with fail
          refine HS.out.mono ?_
          rintro e w7 ⟨rfl, hb7⟩
          have HB7 := hide (HB6.out.trans (hb7.mono HB6.out.size))
          clear HS HB6 hb7
          go_wp2_with fail
          exact bodyPost_ret (results_tmp rfl _ _ _) rfl ⟨by rw [HV.out]; rfl, HB7.out⟩
end Go.Proofs.YtbklgijndjpgoaaDoor
