/-
  The tokens that bytes are: the reference's Get.
-/
import Derived.Test.YteaagmlejoiehaaTkGetAll
import Derived.Test.YteaagmlejoiehaaVintRefGetText
namespace Go.Proofs.Yteaagmlejoiehaa
open Go.RowKit
set_option maxRecDepth 100000

/-- The reader's block, the token's, and the tokens' own row. -/
structure G2 (w : World) (n4 n6 : Nat) (v : Value) (o : List Tk) (rd tk : Array Value) (W : World) : Prop where
  r4 : W.heap[n4]? = some (.cells rd 104 (0, 0))
  r6 : W.heap[n6]? = some (.cells tk 69 (0, 0))
  own : W.ownsRow (n4 + 1) 69 3 v o.length (cellsT o)
  below : Below w.heap.size w W
  at4 : w.heap.size ≤ n4
  lt : n4 < n6
  apart : ∀ r, v.ownBlock = some r → r < n6
theorem G2.call {w : World} {n4 n6 : Nat} {v : Value} {o : List Tk} {rd tk : Array Value} {W W' : World} (h : G2 w n4 n6 v o rd tk W) (hb : Below W.heap.size W W') : G2 w n4 n6 v o rd tk W' :=
  ⟨(hb.block _ (Array.getElem?_eq_some_iff.1 h.r4).1).trans h.r4, (hb.block _ (Array.getElem?_eq_some_iff.1 h.r6).1).trans h.r6, own_below h.own hb, h.below.trans (hb.mono h.below.size), h.at4, h.lt, h.apart⟩
theorem own_cell {w : World} {base n size b j : Nat} {e : TypeId} {v u : Value} {xs : List Value} (h : w.ownsRow base e size v n xs) (hb : ∀ r, v.ownBlock = some r → r ≠ b) : (w.setCell ⟨b, j, none⟩ u).ownsRow base e size v n xs := by
  refine h.kept (⟨rfl, rfl, rfl, by simp [World.setCell], fun k _ hk => Below.heap_setCell w ⟨b, j, none⟩ u k (fun e => hk (by rw [e]))⟩ : w.grownBy (w.setCell ⟨b, j, none⟩ u) (some b)) ?_
  cases hv : v.ownBlock with
  | none => exact .inl rfl
  | some g => exact .inr (fun e => hb g hv (by cases e; rfl))
theorem G2.step {w : World} {n4 n6 : Nat} {v : Value} {o : List Tk} {a b : Value} {tk : Array Value} {W : World} (h : G2 w n4 n6 v o #[a, b] tk W) (x y z : Value) (j : Nat) (O : Obj) :
    G2 w n4 n6 v o #[x, y] (tk.setIfInBounds j z) ((((W.setCell ⟨n4, 0, none⟩ x).setCell ⟨n4, 1, none⟩ y).setCell ⟨n6, j, none⟩ z).alloc O) := by
  have hlt := h.lt
  have hn := h.at4
  have k4 := heap_setCell_same _ n4 1 _ _ y (heap_setCell_same W n4 0 _ _ x h.r4)
  have k6 : ((W.setCell ⟨n4, 0, none⟩ x).setCell ⟨n4, 1, none⟩ y).heap[n6]? = some (.cells tk 69 (0, 0)) := by
    rw [Below.heap_setCell _ _ _ _ (by show n6 ≠ n4; omega), Below.heap_setCell _ _ _ _ (by show n6 ≠ n4; omega)]; exact h.r6
  have o1 := own_cell (b := n6) (j := j) (u := z) (own_cell (b := n4) (j := 1) (u := y) (own_cell (b := n4) (j := 0) (u := x) h.own (fun r e => by have := (h.own.lt r e).1; omega)) (fun r e => by have := (h.own.lt r e).1; omega)) (fun r e => by have := h.apart r e; omega)
  have b1 := ((h.below.setCell (p := ⟨n4, 0, none⟩) hn x).setCell (p := ⟨n4, 1, none⟩) hn y).setCell (p := ⟨n6, j, none⟩) (by show w.heap.size ≤ n6; omega) z
  have f4 := (Below.heap_setCell ((W.setCell ⟨n4, 0, none⟩ x).setCell ⟨n4, 1, none⟩ y) ⟨n6, j, none⟩ z n4 (by show n4 ≠ n6; omega)).trans k4
  have f6 := heap_setCell_same _ n6 j _ _ z k6
  exact ⟨(Below.heap_alloc _ _ _ (Array.getElem?_eq_some_iff.1 f4).1).trans f4, (Below.heap_alloc _ _ _ (Array.getElem?_eq_some_iff.1 f6).1).trans f6, o1.alloc O, b1.alloc b1.size O, hn, hlt, h.apart⟩

theorem G2.facts {w : World} {n4 n6 : Nat} {v : Value} {o : List Tk} {a b c d e : Value} {W : World} (h : G2 w n4 n6 v o #[a, b] #[c, d, e] W) :
    (W.cell? ⟨n4, 0, none⟩ = some a ∧ W.cell? ⟨n4, 1, none⟩ = some b ∧ W.frozen? ⟨n4, 0, none⟩ = false ∧ W.frozen? ⟨n4, 1, none⟩ = false) ∧
    (W.cell? ⟨n6, 0, none⟩ = some c ∧ W.cell? ⟨n6, 1, none⟩ = some d ∧ W.cell? ⟨n6, 2, none⟩ = some e) ∧ (W.frozen? ⟨n6, 0, none⟩ = false ∧ W.frozen? ⟨n6, 1, none⟩ = false ∧ W.frozen? ⟨n6, 2, none⟩ = false) ∧ n4 < W.heap.size ∧ n6 < W.heap.size :=
  ⟨⟨cell_of_row _ _ _ _ _ _ h.r4, cell_of_row _ _ _ _ _ _ h.r4, frozen_of_row _ _ _ _ _ h.r4, frozen_of_row _ _ _ _ _ h.r4⟩, ⟨cell_of_row _ _ _ _ _ _ h.r6, cell_of_row _ _ _ _ _ _ h.r6, cell_of_row _ _ _ _ _ _ h.r6⟩, ⟨frozen_of_row _ _ _ _ _ h.r6, frozen_of_row _ _ _ _ _ h.r6, frozen_of_row _ _ _ _ _ h.r6⟩, (Array.getElem?_eq_some_iff.1 h.r4).1, (Array.getElem?_eq_some_iff.1 h.r6).1⟩

set_option maxHeartbeats 16000000 in
theorem refGetT_any (l : List UInt8) (w : World) (hl : l.length ≤ 1000000) :
    Calls Try.prog 43 #[.string (ofL l)] w fun e w' => (∃ v, e = .returned (.tuple #[v, .int .i64 ((getT l).2 : Nat)]) ∧ TI w 69 v (getT l).1 w') := by
  obtain ⟨i0, hi, hz0, hz1, hz2⟩ := info_parts info_rtk
  obtain ⟨V, hV⟩ : ∃ V, V = getT l := ⟨_, rfl⟩
  have HV := hide (show getF l.length [] l = V by rw [hV]; rfl)
  rw [← hV]
  have hrow := World.alloc_heap_new w (Obj.cells #[.string (ofL l), .int .i64 0] 104)
  have HB1 := hide ((Below.refl w.heap.size w).alloc (Nat.le_refl _) (.cells #[.string (ofL l), .int .i64 0] 104))
  clear hV
  go_enter Try.func43, Try.ntmps43
  go_wp2_with fail
  obtain ⟨n4, hn4⟩ : ∃ n, n = w.heap.size := ⟨_, rfl⟩
  have HO0 := hide (World.ownsRow_nil (w.alloc (.cells #[.string (ofL l), .int .i64 0] 104)) (n4 + 1) 69 3)
  have hz4 : n4 + 1 ≤ (w.alloc (.cells #[.string (ofL l), .int .i64 0] 104)).heap.size := by rw [hn4]; simp
  rw [← hn4] at hrow ⊢
  have HRow := hide hrow
  have HN4 := hide hn4
  clear hn4
  go_loopg [5] l.length (fun gk ov wr => ∃ (B : Option Addr) (d : Nat) (o : List Tk) (m : List UInt8), ov = .slice B o.length d ∧ m.length ≤ gk ∧ o.length + gk ≤ l.length ∧ Hid (wr.heap[n4]? = some (.cells #[.string (ofL m), .int .i64 0] 104 (0, 0))) ∧ Hid (wr.ownsRow (n4 + 1) 69 3 (.slice B o.length d) o.length (cellsT o)) ∧ Hid (Below w.heap.size w wr ∧ n4 + 1 ≤ wr.heap.size) ∧ Hid (getF gk o m = V))
  case atStart => exact ⟨none, 0, [], l, rfl, Nat.le_refl _, by simp, HRow, HO0, hide ⟨HB1.out, hz4⟩, HV⟩
  case round =>
    obtain ⟨B, d, o, m, rfl, hmg, hog, HI, HO, HB, HQ⟩ := hrel
    clear HV HO0 HRow hrow hz4
    have hsz := ofL_size m
    have q0 : wr.cell? ⟨n4, 0, none⟩ = some (.string (ofL m)) := cell_of_row _ _ _ _ _ _ HI.out
    have q1 : wr.cell? ⟨n4, 1, none⟩ = some (.int .i64 0) := cell_of_row _ _ _ _ _ _ HI.out
    by_cases hm0 : m.length = 0
    · have HE := hide (show V = (o, 0) by
        rw [← HQ.out]
        cases gk with
        | zero => rfl
        | succ f => unfold getF; rw [if_pos hm0])
      have hq : ¬ (0 : Int) < (ofL m).size := by omega
      clear HQ
      go_wp2_with fail
      exact bodyPost_ret (results_tmp2 rfl _ _ _) rfl ⟨.slice B o.length d, by rw [HE.out]; rfl, by rw [HE.out]; exact ⟨HB.out.1, ownsRow_lowerT HO.out (by have := HN4.out; omega)⟩⟩
    · cases gk with
      | zero => omega
      | succ gg =>
        have hq : (0 : Int) < (ofL m).size := by omega
        have hd := HQ.out
        unfold getF at hd
        rw [if_neg hm0] at hd
        have hless := readK_less m
        have hlen := readK_len m
        obtain ⟨K, hK⟩ : ∃ K, K = readK m := ⟨_, rfl⟩
        rw [← hK] at hd hless hlen
        unfold readK at hK
        have HG := hide (fun W => getInt_any m 0 4097 W (by omega) (by decide))
        have hr1 := readN_len2 m 0 4097
        rw [refR_ok, show (4097 : Int).toNat = 4097 from rfl] at HG
        generalize readN m 0 4097 = r at HG hK hr1
        obtain ⟨n, l1, e1⟩ := r
        simp only at HG hK hr1
        obtain ⟨s1, hs1⟩ := refR_two l1 e1
        rw [hs1] at HG
        have hlt4 : n4 < wr.heap.size := HB.out.2
        clear HQ
        go_wp2_with fail
        refine (HG.out _).mono ?_
        rintro en w2 ⟨rfl, hb2⟩
        have hrow6 := World.alloc_heap_new wr (Obj.cells #[.int .i64 0, .int .i64 0, .string ⟨#[]⟩] 69)
        obtain ⟨n6, hn6⟩ : ∃ n, n = wr.heap.size := ⟨_, rfl⟩
        have hlt6 : n6 < (wr.alloc (.cells #[.int .i64 0, .int .i64 0, .string ⟨#[]⟩] 69)).heap.size := by rw [hn6]; simp
        have s6 : w2.heap[n6]? = some (.cells #[.int .i64 0, .int .i64 0, .string ⟨#[]⟩] 69 (0, 0)) := (hb2.block n6 hlt6).trans (by rw [hn6]; exact hrow6)
        have s4 := (hb2.block n4 (by simp; omega)).trans ((Below.heap_alloc _ _ _ hlt4).trans HI.out)
        have hB2 := (HB.out.1.alloc HB.out.1.size (.cells #[.int .i64 0, .int .i64 0, .string ⟨#[]⟩] 69)).trans (hb2.mono (by have := HB.out.1.size; simp; omega))
        have hO2 := own_below (HO.out.alloc (.cells #[.int .i64 0, .int .i64 0, .string ⟨#[]⟩] 69)) hb2
        have hne : n4 < n6 := by omega
        have hw6 : w.heap.size ≤ n4 := by have := HN4.out; omega
        have hs2 : n6 < w2.heap.size := (Array.getElem?_eq_some_iff.1 s6).1
        have hs4 : n4 < w2.heap.size := (Array.getElem?_eq_some_iff.1 s4).1
        rw [← hn6]
        have hG := hide (show G2 w n4 n6 (.slice B o.length d) o #[.string (ofL m), .int .i64 0] #[.int .i64 0, .int .i64 0, .string ⟨#[]⟩] w2 from ⟨s4, s6, hO2, hB2, hw6, hne, fun r e => by rw [hn6]; exact (HO.out.lt r e).2⟩)
        clear HG q0 q1 hb2 hrow6 hlt6 hn6 HI HO HB hlt4 s4 s6 hB2 hO2 hs2 hs4
        obtain ⟨⟨d0, d1, z0, z1⟩, ⟨g0, g1, g2⟩, ⟨f0, f1, f2⟩, hs4, hs6⟩ := hG.out.facts
        by_cases hn : n = 0
        · subst hn
          have HT := hide (fun W => getText_any l1 e1 16384 W (by omega) (by decide))
          rw [hs1] at HT
          rw [if_neg (by simp)] at hK
          rw [show (16384 : Int).toNat = 16384 from rfl] at HT
          generalize readT l1 e1 16384 = q at HT hK
          obtain ⟨s, l2, e2⟩ := q
          simp only at HT hK
          subst hK
          simp only at hd hless hlen
          obtain ⟨s2, hs2⟩ := refR_two l2 e2
          rw [hs2] at HT
          go_wp2_with fail
          clear d0 d1 z0 z1 g0 g1 g2 f0 f1 f2 hs4 hs6
          refine (HT.out _).mono ?_
          rintro en w5 ⟨rfl, hb5⟩
          have hG5 := hide ((hG.out.step _ _ _ 1 _).call hb5)
          clear HT hb5 hG
          obtain ⟨⟨d0, d1, z0, z1⟩, ⟨g0, g1, g2⟩, ⟨f0, f1, f2⟩, hs4, hs6⟩ := hG5.out.facts
          by_cases he : e2 = 0
          · subst he
            have hs3 : s2 = ofL l2 := by rw [refR_ok] at hs2; injection hs2 with h; injection h with h; injection h with h h'; injection h with h; exact h.symm
            rw [if_neg (by simp)] at hd
            have hlt2 := hless rfl
            have HR := hide (fun W => refTRight_any ⟨0, 0, ofL s⟩ W)
            clear hs1 hs2 hless
            cases hr : rightT ⟨0, 0, ofL s⟩ with
            | false =>
              rw [hr, if_neg (by decide)] at hd
              rw [hr] at HR
              have HD := hide hd.symm
              simp only [Tk.cells] at HR
              clear hd hr
              go_wp2_with fail
              clear d0 d1 z0 z1 g0 g1 g2 f0 f1 f2 hs4 hs6
              refine (HR.out _).mono ?_
              rintro en w7 ⟨rfl, hb7⟩
              have hG7 := hide ((hG5.out.step _ _ _ 2 _).call hb7)
              clear HR hb7 hG5
              go_wp2_with fail
              exact bodyPost_ret (results_tmp2 rfl _ _ _) rfl ⟨.slice none 0 0, by rw [HD.out]; rfl, by rw [HD.out]; exact ⟨hG7.out.below, World.ownsRow_nil _ _ _ _⟩⟩
            | true =>
              rw [hr, if_pos rfl] at hd
              rw [hr] at HR
              have HD := hide hd
              simp only [Tk.cells] at HR
              clear hd hr
              go_wp2_with fail
              clear d0 d1 z0 z1 g0 g1 g2 f0 f1 f2 hs4 hs6
              refine (HR.out _).mono ?_
              rintro en w7 ⟨rfl, hb7⟩
              have hG7 := (hG5.out.step _ _ _ 2 _).call hb7
              clear HR hb7 hG5
              obtain ⟨⟨d0, d1, z0, z1⟩, ⟨g0, g1, g2⟩, ⟨f0, f1, f2⟩, hs4, hs6⟩ := hG7.facts
              have hO8 := hG7.own.alloc (.cells (Tk.cells ⟨0, 0, ofL s⟩) 69)
              have hB8 := hG7.below.alloc hG7.below.size (.cells (Tk.cells ⟨0, 0, ofL s⟩) 69)
              have hRn := RdT.one w7 ⟨0, 0, ofL s⟩ 69
              have hsz8 : n4 + 1 ≤ (w7.alloc (.cells (Tk.cells ⟨0, 0, ofL s⟩) 69)).heap.size := by simp; omega
              have hr8 := (Below.heap_alloc w7 (.cells (Tk.cells ⟨0, 0, ofL s⟩) 69) _ hs4).trans hG7.r4
              clear hG7
              go_wp2_with (at_builtin; go_loud (refine wpList_append_toks rfl _ _ 63 rfl (n4 + 1) 69 i0 Try.underlying63 hi hz0 hz1 hz2 _ _ _ rfl hO8 (some ⟨w7.heap.size, 0, none⟩) _ 1 _ [⟨0, 0, ofL s⟩] rfl rfl hRn (by unfold maxLen; omega) (by omega) hsz8 ?_))
              intro v9 w9 hO9 hg9
              have hB9 := hB8.grown hg9 hB8.size (fun r e => by have := (hO8.lt r e).1; omega)
              have hr9 := (hg9.block n4 (Array.getElem?_eq_some_iff.1 hr8).1 (fun e => by have := (hO8.lt _ e.symm).1; omega)).trans hr8
              obtain ⟨D, g, rfl⟩ := ownsRow_slice hO9
              have hlen9 : (o ++ [(⟨0, 0, ofL s⟩ : Tk)]).length = o.length + 1 := by simp
              have HO9 := hide (show w9.ownsRow (n4 + 1) 69 3 (.slice D (o ++ [(⟨0, 0, ofL s⟩ : Tk)]).length g) (o ++ [(⟨0, 0, ofL s⟩ : Tk)]).length (cellsT (o ++ [⟨0, 0, ofL s⟩])) from by rw [cellsT_app, hlen9]; exact hO9)
              have HB9 := hide (And.intro hB9 (Nat.le_trans hsz8 hg9.size))
              have HR9 := hide hr9
              rw [hlen9] at HO9
              clear hO8 hRn hB8 hO9 hg9 hB9 hr8 hr9 d0 d1 z0 z1 g0 g1 g2 f0 f1 f2 hs4 hs6
              go_wp2_with fail
              go_roundg gg
              case rel => exact ⟨D, g, o ++ [⟨0, 0, ofL s⟩], l2, by rw [hlen9], by omega, by rw [hlen9]; omega, HR9, by rw [hlen9]; exact HO9, HB9, HD⟩
              case measure => omega
          · rw [if_pos he] at hd
            have E1 : ((e2 : Int) != 0) = true := by rw [bne_iff_ne]; omega
            have HD := hide hd.symm
            have hGx := hide ((hG5.out.step (.string s2) (.int .i64 (e2 : Nat)) (.string (ofL s)) 2 (.cells #[.string s2, .int .i64 (e2 : Nat)] 104)))
            clear hd he hless hs1 hs2
            go_wp2_with fail
            go_quiet (fail)
            go_wp2_with fail
            exact bodyPost_ret (results_tmp2 rfl _ _ _) rfl ⟨.slice none 0 0, by rw [HD.out]; rfl, by rw [HD.out]; exact ⟨below_drewN hGx.out.below _, World.ownsRow_nil _ _ _ _⟩⟩
        · skip
          have HT := hide (fun W => getInt_any l1 e1 4097 W (by omega) (by decide))
          rw [hs1] at HT
          rw [if_pos hn] at hK
          rw [show (4097 : Int).toNat = 4097 from rfl] at HT
          generalize readN l1 e1 4097 = q at HT hK
          obtain ⟨f, l2, e2⟩ := q
          simp only at HT hK
          subst hK
          simp only at hd hless hlen
          have hn0 : (0 : Int) < n := by omega
          obtain ⟨s2, hs2⟩ := refR_two l2 e2
          rw [hs2] at HT
          go_wp2_with fail
          clear d0 d1 z0 z1 g0 g1 g2 f0 f1 f2 hs4 hs6
          refine (HT.out _).mono ?_
          rintro en w5 ⟨rfl, hb5⟩
          have hG5 := hide ((hG.out.step _ _ _ 1 _).call hb5)
          clear HT hb5 hG
          obtain ⟨⟨d0, d1, z0, z1⟩, ⟨g0, g1, g2⟩, ⟨f0, f1, f2⟩, hs4, hs6⟩ := hG5.out.facts
          by_cases he : e2 = 0
          · subst he
            have hs3 : s2 = ofL l2 := by rw [refR_ok] at hs2; injection hs2 with h; injection h with h; injection h with h h'; injection h with h; exact h.symm
            rw [if_neg (by simp)] at hd
            have hlt2 := hless rfl
            have HR := hide (fun W => refTRight_any ⟨(f : Nat), (n : Nat), ⟨#[]⟩⟩ W)
            clear hs1 hs2 hless
            cases hr : rightT ⟨(f : Nat), (n : Nat), ⟨#[]⟩⟩ with
            | false =>
              rw [hr, if_neg (by decide)] at hd
              rw [hr] at HR
              have HD := hide hd.symm
              simp only [Tk.cells] at HR
              clear hd hr
              go_wp2_with fail
              clear d0 d1 z0 z1 g0 g1 g2 f0 f1 f2 hs4 hs6
              refine (HR.out _).mono ?_
              rintro en w7 ⟨rfl, hb7⟩
              have hG7 := hide ((hG5.out.step _ _ _ 0 _).call hb7)
              clear HR hb7 hG5
              go_wp2_with fail
              exact bodyPost_ret (results_tmp2 rfl _ _ _) rfl ⟨.slice none 0 0, by rw [HD.out]; rfl, by rw [HD.out]; exact ⟨hG7.out.below, World.ownsRow_nil _ _ _ _⟩⟩
            | true =>
              rw [hr, if_pos rfl] at hd
              rw [hr] at HR
              have HD := hide hd
              simp only [Tk.cells] at HR
              clear hd hr
              go_wp2_with fail
              clear d0 d1 z0 z1 g0 g1 g2 f0 f1 f2 hs4 hs6
              refine (HR.out _).mono ?_
              rintro en w7 ⟨rfl, hb7⟩
              have hG7 := (hG5.out.step _ _ _ 0 _).call hb7
              clear HR hb7 hG5
              obtain ⟨⟨d0, d1, z0, z1⟩, ⟨g0, g1, g2⟩, ⟨f0, f1, f2⟩, hs4, hs6⟩ := hG7.facts
              have hO8 := hG7.own.alloc (.cells (Tk.cells ⟨(f : Nat), (n : Nat), ⟨#[]⟩⟩) 69)
              have hB8 := hG7.below.alloc hG7.below.size (.cells (Tk.cells ⟨(f : Nat), (n : Nat), ⟨#[]⟩⟩) 69)
              have hRn := RdT.one w7 ⟨(f : Nat), (n : Nat), ⟨#[]⟩⟩ 69
              have hsz8 : n4 + 1 ≤ (w7.alloc (.cells (Tk.cells ⟨(f : Nat), (n : Nat), ⟨#[]⟩⟩) 69)).heap.size := by simp; omega
              have hr8 := (Below.heap_alloc w7 (.cells (Tk.cells ⟨(f : Nat), (n : Nat), ⟨#[]⟩⟩) 69) _ hs4).trans hG7.r4
              clear hG7
              go_wp2_with (at_builtin; go_loud (refine wpList_append_toks rfl _ _ 63 rfl (n4 + 1) 69 i0 Try.underlying63 hi hz0 hz1 hz2 _ _ _ rfl hO8 (some ⟨w7.heap.size, 0, none⟩) _ 1 _ [⟨(f : Nat), (n : Nat), ⟨#[]⟩⟩] rfl rfl hRn (by unfold maxLen; omega) (by omega) hsz8 ?_))
              intro v9 w9 hO9 hg9
              have hB9 := hB8.grown hg9 hB8.size (fun r e => by have := (hO8.lt r e).1; omega)
              have hr9 := (hg9.block n4 (Array.getElem?_eq_some_iff.1 hr8).1 (fun e => by have := (hO8.lt _ e.symm).1; omega)).trans hr8
              obtain ⟨D, g, rfl⟩ := ownsRow_slice hO9
              have hlen9 : (o ++ [(⟨(f : Nat), (n : Nat), ⟨#[]⟩⟩ : Tk)]).length = o.length + 1 := by simp
              have HO9 := hide (show w9.ownsRow (n4 + 1) 69 3 (.slice D (o ++ [(⟨(f : Nat), (n : Nat), ⟨#[]⟩⟩ : Tk)]).length g) (o ++ [(⟨(f : Nat), (n : Nat), ⟨#[]⟩⟩ : Tk)]).length (cellsT (o ++ [⟨(f : Nat), (n : Nat), ⟨#[]⟩⟩])) from by rw [cellsT_app, hlen9]; exact hO9)
              have HB9 := hide (And.intro hB9 (Nat.le_trans hsz8 hg9.size))
              have HR9 := hide hr9
              rw [hlen9] at HO9
              clear hO8 hRn hB8 hO9 hg9 hB9 hr8 hr9 d0 d1 z0 z1 g0 g1 g2 f0 f1 f2 hs4 hs6
              go_wp2_with fail
              go_roundg gg
              case rel => exact ⟨D, g, o ++ [⟨(f : Nat), (n : Nat), ⟨#[]⟩⟩], l2, by rw [hlen9], by omega, by rw [hlen9]; omega, HR9, by rw [hlen9]; exact HO9, HB9, HD⟩
              case measure => omega
          · rw [if_pos he] at hd
            have E1 : ((e2 : Int) != 0) = true := by rw [bne_iff_ne]; omega
            have HD := hide hd.symm
            have hGx := hide ((hG5.out.step (.string s2) (.int .i64 (e2 : Nat)) (.int .i64 (f : Nat)) 0 (.cells #[.string s2, .int .i64 (e2 : Nat)] 104)))
            clear hd he hless hs1 hs2
            go_wp2_with fail
            go_quiet (fail)
            go_wp2_with fail
            exact bodyPost_ret (results_tmp2 rfl _ _ _) rfl ⟨.slice none 0 0, by rw [HD.out]; rfl, by rw [HD.out]; exact ⟨below_drewN hGx.out.below _, World.ownsRow_nil _ _ _ _⟩⟩
end Go.Proofs.Yteaagmlejoiehaa
