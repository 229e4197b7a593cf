/-
  edit.guess: the edit that a line would be of.
-/
import Derived.Test.YtlohoamhgioheaaDoorEdGuess
import Derived.Test.YtlohoamhgioheaaDoorEdits
import Derived.Laws.Rows
namespace Go.Proofs.YtlohoamhgioheaaDoor
open Go.RowKit
set_option maxRecDepth 100000

/-- The edit that a line would be of. -/
def gK (s : ByteArray) : Int := kindL (headW (toL s))
def g1 (s : ByteArray) : ByteArray := if hasX (gK s) 1 then tlB (tlB s) else tlB s
def g2 (s : ByteArray) : ByteArray := if hasX (gK s) 2 then tlB (g1 s) else g1 s
def guessT (s : ByteArray) : Et :=
  ⟨gK s, if hasX (gK s) 1 then hdB (tlB s) else ⟨#[]⟩, if hasX (gK s) 2 then hdB (g1 s) else ⟨#[]⟩, if hasX (gK s) 4 then atoiN (toL (hdB (g2 s))) else 0⟩
/-- What guess has in memory: the rest of its line; its answer's block; the edit. -/
structure GB (w : World) (r : ByteArray) (W : World) : Prop where
  below : Below w.heap.size w W
  b1 : W.heap[w.heap.size]? = some (.cells #[.string r] 9 (0, 0))
  b2 : W.heap[w.heap.size + 1]? = some (.cells zeroEt.cells 23 (0, 0))
  sz : w.heap.size + 2 ≤ W.heap.size
structure GE (w : World) (r : ByteArray) (e : Et) (p : Nat) (W : World) : Prop extends GB w r W where
  bE : W.heap[p]? = some (.cells e.cells 23 (0, 0))
  hp : w.heap.size + 2 ≤ p
theorem GB.next {w W W' : World} {r r' : ByteArray} (h : GB w r W) (hg : W.grownBy W' (some w.heap.size)) (hb : W'.heap[w.heap.size]? = some (.cells #[.string r'] 9 (0, 0))) : GB w r' W' :=
  ⟨h.below.grown hg h.below.size (fun k e => by cases e; exact Nat.le_refl _), hb, (hg.block _ (by have := h.sz; omega) (fun e => by injection e; omega)).trans h.b2, Nat.le_trans h.sz hg.size⟩
theorem GE.next {w W W' : World} {r r' : ByteArray} {e : Et} {p : Nat} (h : GE w r e p W) (hg : W.grownBy W' (some w.heap.size)) (hb : W'.heap[w.heap.size]? = some (.cells #[.string r'] 9 (0, 0))) : GE w r' e p W' :=
  ⟨h.toGB.next hg hb, (hg.block p (Array.getElem?_eq_some_iff.1 h.bE).1 (fun e => by have := h.hp; injection e; omega)).trans h.bE, h.hp⟩
theorem GE.grown {w W W' : World} {r : ByteArray} {e : Et} {p : Nat} (h : GE w r e p W) (hb : Below W.heap.size W W') : GE w r e p W' := by
  have hz := h.sz
  exact ⟨⟨h.below.trans (hb.mono h.below.size), (hb.block _ (by omega)).trans h.b1, (hb.block _ (by omega)).trans h.b2, Nat.le_trans hz hb.size⟩, (hb.block _ (Array.getElem?_eq_some_iff.1 h.bE).1).trans h.bE, h.hp⟩
theorem GE.set {w W : World} {r : ByteArray} {e e' : Et} {p k : Nat} {v : Value} (h : GE w r e p W) (he : e'.cells = e.cells.setIfInBounds k v) : GE w r e' p (W.setCell ⟨p, k, none⟩ v) := by
  have hp := h.hp
  refine ⟨⟨h.below.setCell (p := ⟨p, k, none⟩) (by show w.heap.size ≤ p; omega) v, (heap_setCell_other _ _ _ _ (by simp; omega)).trans h.b1, (heap_setCell_other _ _ _ _ (by simp; omega)).trans h.b2, by simpa [World.setCell] using h.sz⟩, ?_, hp⟩
  rw [he]
  exact heap_setCell_same _ _ _ _ _ _ h.bE
theorem next_grown (b : Nat) (s : ByteArray) (w : World) (hs : (s.size : Int) ≤ 1000000) (hb : w.heap[b]? = some (.cells #[.string s] 9 (0, 0))) :
    Calls Tryd.prog 44 #[.pointer (some ⟨b, 0, none⟩)] w fun e w' => e = .returned (.string (hdB s)) ∧ w.grownBy w' (some b) ∧ w'.heap[b]? = some (.cells #[.string (tlB s)] 9 (0, 0)) := by
  refine (next_any b s w hs hb).mono ?_
  rintro e w' ⟨rfl, n, rfl⟩
  have h := grownBy_setCell (w.drewN n) ⟨b, 0, none⟩ (.string (tlB s))
  exact ⟨rfl, ⟨h.os, h.tape, h.output, h.size, h.block⟩, heap_setCell_same (w.drewN n) b 0 _ _ _ hb⟩

theorem four_put (W : World) (n : Nat) (z0 z1 z2 z3 v0 v1 v2 v3 : Value) (t : TypeId) (h : W.heap[n]? = some (.cells #[z0, z1, z2, z3] t (0, 0))) :
    Below n W ((((W.setCell ⟨n, 0, none⟩ v0).setCell ⟨n, 1, none⟩ v1).setCell ⟨n, 2, none⟩ v2).setCell ⟨n, 3, none⟩ v3) ∧ ((((W.setCell ⟨n, 0, none⟩ v0).setCell ⟨n, 1, none⟩ v1).setCell ⟨n, 2, none⟩ v2).setCell ⟨n, 3, none⟩ v3).heap[n]? = some (.cells #[v0, v1, v2, v3] t (0, 0)) :=
  ⟨((((Below.refl n W).setCell (p := ⟨n, 0, none⟩) (Nat.le_refl _) v0).setCell (p := ⟨n, 1, none⟩) (Nat.le_refl _) v1).setCell (p := ⟨n, 2, none⟩) (Nat.le_refl _) v2).setCell (p := ⟨n, 3, none⟩) (Nat.le_refl _) v3,
    heap_setCell_same _ _ 3 _ _ v3 (heap_setCell_same _ _ 2 _ _ v2 (heap_setCell_same _ _ 1 _ _ v1 (heap_setCell_same _ _ 0 _ _ v0 h)))⟩
set_option maxHeartbeats 8000000 in
theorem guess_any (s : ByteArray) (w : World) (hs : (s.size : Int) ≤ 1000000) (hT : Tabs w) (hE : Errs w) :
    Calls Tryd.prog 30 #[.string s] w fun e w' => e = .returned (.agg (guessT s).cells) ∧ Below w.heap.size w w' := by
  have HT := hide hT
  have HEr := hide hE
  have HK := hide (fun x W (hb : Below w.heap.size w W) => kind_any x W (HT.out.below hb))
  have HX := hide (fun W (hb : Below w.heap.size w W) b hb' => has_any (gK s) b W (HT.out.below hb) hb')
  have HA := hide (fun x W (hx : (x.size : Int) ≤ 1000000) (hb : Below w.heap.size w W) => atoi_any x W hx (HEr.out.below hb))
  have HZ := hide hs
  have hk0 : kindL (toL (hdB s)) = gK s := by rw [hd_toL]; rfl
  clear hT hE
  obtain ⟨w1, hw1⟩ : ∃ w1, w1 = (w.alloc (.cells #[.string s] 9)).alloc (.cells zeroEt.cells 23) := ⟨_, rfl⟩
  have hG : GB w s w1 := by
    rw [hw1]
    refine ⟨((Below.refl _ w).alloc (Nat.le_refl _) _).alloc (by simp) _, ?_, ?_, by simp⟩
    · rw [Below.heap_alloc _ _ _ (by simp)]; exact World.alloc_heap_new _ _
    · have := World.alloc_heap_new (w.alloc (.cells #[.string s] 9)) (.cells zeroEt.cells 23)
      rwa [World.size_alloc] at this
  go_enter Tryd.func30, Tryd.ntmps30
  simp only [zeroEt, Et.cells] at hw1
  go_wp2_with fail
  rw [← hw1]
  clear hw1
  refine (next_grown w.heap.size s w1 hs hG.b1).mono ?_
  rintro e w2 ⟨rfl, hg, hb⟩
  have HG := hide (hG.next hg hb)
  clear hG hg hb
  go_wp2_with fail
  refine (HK.out _ _ HG.out.below).mono ?_
  rintro e w3 ⟨rfl, rfl⟩
  rw [hk0]
  have hE3 : GE w (tlB s) ⟨gK s, ⟨#[]⟩, ⟨#[]⟩, 0⟩ w3.heap.size (w3.alloc (.cells #[.int .i64 (gK s), .string ⟨#[]⟩, .string ⟨#[]⟩, .int .i64 0] 23)) := by
    have hz := HG.out.sz
    exact ⟨⟨HG.out.below.alloc HG.out.below.size _, (Below.heap_alloc _ _ _ (by omega)).trans HG.out.b1, (Below.heap_alloc _ _ _ (by omega)).trans HG.out.b2, by simp; omega⟩, World.alloc_heap_new _ _, hz⟩
  have d0 : (w3.alloc (.cells #[.int .i64 (gK s), .string ⟨#[]⟩, .string ⟨#[]⟩, .int .i64 0] 23)).cell? ⟨w3.heap.size, 0, none⟩ = some (.int .i64 (gK s)) := cell_of_row _ _ _ _ _ _ hE3.bE
  have hsz1 := hd_size s
  have HT1 := hide (hsz1.2)
  clear hsz1 hk0
  go_wp2_with fail
  obtain ⟨W4, hW4⟩ : ∃ W4, W4 = w3.alloc (.cells #[.int .i64 (gK s), .string ⟨#[]⟩, .string ⟨#[]⟩, .int .i64 0] 23) := ⟨_, rfl⟩
  rw [← hW4] at hE3 d0 ⊢
  have HS1 := hide (show ((tlB s).size : Int) ≤ 1000000 by have := HT1.out; have := HZ.out; omega)
  clear hW4 HG HT1
  generalize w3.heap.size = p at hE3 d0 ⊢
  have HL := hide hE3
  clear hE3
  have HX1 := hide (HX.out W4 HL.out.below 1 (by simp))
  cases hx1 : hasX (gK s) 1 with
  | false =>
    rw [hx1] at HX1
    refine (HX1.out).mono ?_
    rintro e wq ⟨rfl, rfl⟩
    go_wp2_with fail
    have HX2 := hide (HX.out wq HL.out.below 2 (by simp))
    cases hx2 : hasX (gK s) 2 with
    | false =>
      rw [hx2] at HX2
      refine (HX2.out).mono ?_
      rintro e wq ⟨rfl, rfl⟩
      go_wp2_with fail
      have HX4 := hide (HX.out wq HL.out.below 4 (by simp))
      cases hx4 : hasX (gK s) 4 with
      | false =>
        rw [hx4] at HX4
        refine (HX4.out).mono ?_
        rintro e wq ⟨rfl, rfl⟩
        have hP : (guessT s).cells = #[.int .i64 (gK s), .string (⟨#[]⟩), .string (⟨#[]⟩), .int .i64 (0)] := by unfold guessT g2 g1 Et.cells; rw [hx1, hx2, hx4]; rfl
        have HP := hide hP
        clear hP hx1 hx2 hx4
        have k0 : wq.cell? ⟨p, 0, none⟩ = some (.int .i64 (gK s)) := cell_of_row _ _ _ _ _ _ HL.out.bE
        have k1 : wq.cell? ⟨p, 1, none⟩ = some (.string (⟨#[]⟩)) := cell_of_row _ _ _ _ _ _ HL.out.bE
        have k2 : wq.cell? ⟨p, 2, none⟩ = some (.string (⟨#[]⟩)) := cell_of_row _ _ _ _ _ _ HL.out.bE
        have k3 : wq.cell? ⟨p, 3, none⟩ = some (.int .i64 (0)) := cell_of_row _ _ _ _ _ _ HL.out.bE
        have y0 : wq.frozen? ⟨w.heap.size + 1, 0, none⟩ = false := frozen_of_row _ _ _ _ _ HL.out.b2
        have m0 : wq.cell? ⟨w.heap.size + 1, 0, none⟩ = some (.int .i64 0) := cell_of_row _ _ _ _ _ _ HL.out.b2
        have m1 : wq.cell? ⟨w.heap.size + 1, 1, none⟩ = some (.string ⟨#[]⟩) := cell_of_row _ _ _ _ _ _ HL.out.b2
        have m2 : wq.cell? ⟨w.heap.size + 1, 2, none⟩ = some (.string ⟨#[]⟩) := cell_of_row _ _ _ _ _ _ HL.out.b2
        have m3 : wq.cell? ⟨w.heap.size + 1, 3, none⟩ = some (.int .i64 0) := cell_of_row _ _ _ _ _ _ HL.out.b2
        have y1 : wq.frozen? ⟨w.heap.size + 1, 1, none⟩ = false := frozen_of_row _ _ _ _ _ HL.out.b2
        have y2 : wq.frozen? ⟨w.heap.size + 1, 2, none⟩ = false := frozen_of_row _ _ _ _ _ HL.out.b2
        have y3 : wq.frozen? ⟨w.heap.size + 1, 3, none⟩ = false := frozen_of_row _ _ _ _ _ HL.out.b2
        have HF := hide (four_put wq (w.heap.size + 1) _ _ _ _ (.int .i64 (gK s)) (.string (⟨#[]⟩)) (.string (⟨#[]⟩)) (.int .i64 (0)) _ HL.out.b2)
        have HB9 := hide (HL.out.below.trans (HF.out.1.mono (by omega)))
        clear d0 HL
        go_wp2_with fail
        refine bodyPost_ret (results_cell_row (P := Tryd.prog) rfl _ _ (w.heap.size + 1) _ _ _ _ rfl HF.out.2 Tryd.underlying23 rfl (by kernel_rfl)) rfl ⟨by rw [HP.out], HB9.out⟩
      | true =>
        rw [hx4] at HX4
        refine (HX4.out).mono ?_
        rintro e wq ⟨rfl, rfl⟩
        have HSr := hide (show ((tlB s).size : Int) ≤ 1000000 by have := HS1.out; omega)
        go_wp2_with fail
        refine (next_grown w.heap.size (tlB s) wq HSr.out HL.out.b1).mono ?_
        rintro e wn1 ⟨rfl, hg, hb⟩
        have HL1 := hide (HL.out.next hg hb)
        have HS2 := hide (show ((tlB (tlB s)).size : Int) ≤ 1000000 by have := HSr.out; have := (hd_size (tlB s)).2; omega)
        have HH1 := hide (show ((hdB (tlB s)).size : Int) ≤ 1000000 by have := HSr.out; have := (hd_size (tlB s)).1; omega)
        clear hg hb d0 HL HSr
        go_wp2_with fail
        refine (HA.out _ _ HH1.out HL1.out.below).mono ?_
        rintro e wa ⟨⟨ev, rfl⟩, hba⟩
        have HLa := hide (HL1.out.grown hba)
        clear hba HL1
        have y3 : wa.frozen? ⟨p, 3, none⟩ = false := frozen_of_row _ _ _ _ _ HLa.out.bE
        have x3 : wa.cell? ⟨p, 3, none⟩ = some (.int .i64 0) := cell_of_row _ _ _ _ _ _ HLa.out.bE
        have HLs := hide (HLa.out.set (e' := ⟨gK s, ⟨#[]⟩, ⟨#[]⟩, atoiN (toL (hdB (tlB s)))⟩) (k := 3) (v := .int .i64 (atoiN (toL (hdB (tlB s))))) rfl)
        have d0 : (wa.setCell ⟨p, 3, none⟩ (.int .i64 (atoiN (toL (hdB (tlB s)))))).cell? ⟨p, 0, none⟩ = some (.int .i64 (gK s)) := cell_of_row _ _ _ _ _ _ HLs.out.bE
        clear HLa
        have HL := HLs
        clear HLs
        have hP : (guessT s).cells = #[.int .i64 (gK s), .string (⟨#[]⟩), .string (⟨#[]⟩), .int .i64 (atoiN (toL (hdB (tlB s))))] := by unfold guessT g2 g1 Et.cells; rw [hx1, hx2, hx4]; rfl
        have HP := hide hP
        clear hP hx1 hx2 hx4
        have k0 : (wa.setCell ⟨p, 3, none⟩ (.int .i64 (atoiN (toL (hdB (tlB s)))))).cell? ⟨p, 0, none⟩ = some (.int .i64 (gK s)) := cell_of_row _ _ _ _ _ _ HL.out.bE
        have k1 : (wa.setCell ⟨p, 3, none⟩ (.int .i64 (atoiN (toL (hdB (tlB s)))))).cell? ⟨p, 1, none⟩ = some (.string (⟨#[]⟩)) := cell_of_row _ _ _ _ _ _ HL.out.bE
        have k2 : (wa.setCell ⟨p, 3, none⟩ (.int .i64 (atoiN (toL (hdB (tlB s)))))).cell? ⟨p, 2, none⟩ = some (.string (⟨#[]⟩)) := cell_of_row _ _ _ _ _ _ HL.out.bE
        have k3 : (wa.setCell ⟨p, 3, none⟩ (.int .i64 (atoiN (toL (hdB (tlB s)))))).cell? ⟨p, 3, none⟩ = some (.int .i64 (atoiN (toL (hdB (tlB s))))) := cell_of_row _ _ _ _ _ _ HL.out.bE
        have y0 : (wa.setCell ⟨p, 3, none⟩ (.int .i64 (atoiN (toL (hdB (tlB s)))))).frozen? ⟨w.heap.size + 1, 0, none⟩ = false := frozen_of_row _ _ _ _ _ HL.out.b2
        have m0 : (wa.setCell ⟨p, 3, none⟩ (.int .i64 (atoiN (toL (hdB (tlB s)))))).cell? ⟨w.heap.size + 1, 0, none⟩ = some (.int .i64 0) := cell_of_row _ _ _ _ _ _ HL.out.b2
        have m1 : (wa.setCell ⟨p, 3, none⟩ (.int .i64 (atoiN (toL (hdB (tlB s)))))).cell? ⟨w.heap.size + 1, 1, none⟩ = some (.string ⟨#[]⟩) := cell_of_row _ _ _ _ _ _ HL.out.b2
        have m2 : (wa.setCell ⟨p, 3, none⟩ (.int .i64 (atoiN (toL (hdB (tlB s)))))).cell? ⟨w.heap.size + 1, 2, none⟩ = some (.string ⟨#[]⟩) := cell_of_row _ _ _ _ _ _ HL.out.b2
        have m3 : (wa.setCell ⟨p, 3, none⟩ (.int .i64 (atoiN (toL (hdB (tlB s)))))).cell? ⟨w.heap.size + 1, 3, none⟩ = some (.int .i64 0) := cell_of_row _ _ _ _ _ _ HL.out.b2
        have y1 : (wa.setCell ⟨p, 3, none⟩ (.int .i64 (atoiN (toL (hdB (tlB s)))))).frozen? ⟨w.heap.size + 1, 1, none⟩ = false := frozen_of_row _ _ _ _ _ HL.out.b2
        have y2 : (wa.setCell ⟨p, 3, none⟩ (.int .i64 (atoiN (toL (hdB (tlB s)))))).frozen? ⟨w.heap.size + 1, 2, none⟩ = false := frozen_of_row _ _ _ _ _ HL.out.b2
        have y3 : (wa.setCell ⟨p, 3, none⟩ (.int .i64 (atoiN (toL (hdB (tlB s)))))).frozen? ⟨w.heap.size + 1, 3, none⟩ = false := frozen_of_row _ _ _ _ _ HL.out.b2
        have HF := hide (four_put (wa.setCell ⟨p, 3, none⟩ (.int .i64 (atoiN (toL (hdB (tlB s)))))) (w.heap.size + 1) _ _ _ _ (.int .i64 (gK s)) (.string (⟨#[]⟩)) (.string (⟨#[]⟩)) (.int .i64 (atoiN (toL (hdB (tlB s))))) _ HL.out.b2)
        have HB9 := hide (HL.out.below.trans (HF.out.1.mono (by omega)))
        clear d0 HL
        go_wp2_with fail
        refine bodyPost_ret (results_cell_row (P := Tryd.prog) rfl _ _ (w.heap.size + 1) _ _ _ _ rfl HF.out.2 Tryd.underlying23 rfl (by kernel_rfl)) rfl ⟨by rw [HP.out], HB9.out⟩
    | true =>
      rw [hx2] at HX2
      refine (HX2.out).mono ?_
      rintro e wq ⟨rfl, rfl⟩
      have HSr := hide (show ((tlB s).size : Int) ≤ 1000000 by have := HS1.out; omega)
      go_wp2_with fail
      refine (next_grown w.heap.size (tlB s) wq HSr.out HL.out.b1).mono ?_
      rintro e wn1 ⟨rfl, hg, hb⟩
      have HL1 := hide (HL.out.next hg hb)
      have HS2 := hide (show ((tlB (tlB s)).size : Int) ≤ 1000000 by have := HSr.out; have := (hd_size (tlB s)).2; omega)
      have HH1 := hide (show ((hdB (tlB s)).size : Int) ≤ 1000000 by have := HSr.out; have := (hd_size (tlB s)).1; omega)
      clear hg hb d0 HL HSr
      have y2 : wn1.frozen? ⟨p, 2, none⟩ = false := frozen_of_row _ _ _ _ _ HL1.out.bE
      have x2 : wn1.cell? ⟨p, 2, none⟩ = some (.string ⟨#[]⟩) := cell_of_row _ _ _ _ _ _ HL1.out.bE
      have HLs := hide (HL1.out.set (e' := ⟨gK s, ⟨#[]⟩, hdB (tlB s), 0⟩) (k := 2) (v := .string (hdB (tlB s))) rfl)
      have d0 : (wn1.setCell ⟨p, 2, none⟩ (.string (hdB (tlB s)))).cell? ⟨p, 0, none⟩ = some (.int .i64 (gK s)) := cell_of_row _ _ _ _ _ _ HLs.out.bE
      clear HL1
      go_wp2_with fail
      obtain ⟨ws1, hws1⟩ : ∃ W, W = wn1.setCell ⟨p, 2, none⟩ (.string (hdB (tlB s))) := ⟨_, rfl⟩
      rw [← hws1] at HLs d0 ⊢
      clear hws1 y2 x2
      have HL := HLs
      clear HLs
      have HX4 := hide (HX.out ws1 HL.out.below 4 (by simp))
      cases hx4 : hasX (gK s) 4 with
      | false =>
        rw [hx4] at HX4
        refine (HX4.out).mono ?_
        rintro e wq ⟨rfl, rfl⟩
        have hP : (guessT s).cells = #[.int .i64 (gK s), .string (⟨#[]⟩), .string (hdB (tlB s)), .int .i64 (0)] := by unfold guessT g2 g1 Et.cells; rw [hx1, hx2, hx4]; rfl
        have HP := hide hP
        clear hP hx1 hx2 hx4
        have k0 : wq.cell? ⟨p, 0, none⟩ = some (.int .i64 (gK s)) := cell_of_row _ _ _ _ _ _ HL.out.bE
        have k1 : wq.cell? ⟨p, 1, none⟩ = some (.string (⟨#[]⟩)) := cell_of_row _ _ _ _ _ _ HL.out.bE
        have k2 : wq.cell? ⟨p, 2, none⟩ = some (.string (hdB (tlB s))) := cell_of_row _ _ _ _ _ _ HL.out.bE
        have k3 : wq.cell? ⟨p, 3, none⟩ = some (.int .i64 (0)) := cell_of_row _ _ _ _ _ _ HL.out.bE
        have y0 : wq.frozen? ⟨w.heap.size + 1, 0, none⟩ = false := frozen_of_row _ _ _ _ _ HL.out.b2
        have m0 : wq.cell? ⟨w.heap.size + 1, 0, none⟩ = some (.int .i64 0) := cell_of_row _ _ _ _ _ _ HL.out.b2
        have m1 : wq.cell? ⟨w.heap.size + 1, 1, none⟩ = some (.string ⟨#[]⟩) := cell_of_row _ _ _ _ _ _ HL.out.b2
        have m2 : wq.cell? ⟨w.heap.size + 1, 2, none⟩ = some (.string ⟨#[]⟩) := cell_of_row _ _ _ _ _ _ HL.out.b2
        have m3 : wq.cell? ⟨w.heap.size + 1, 3, none⟩ = some (.int .i64 0) := cell_of_row _ _ _ _ _ _ HL.out.b2
        have y1 : wq.frozen? ⟨w.heap.size + 1, 1, none⟩ = false := frozen_of_row _ _ _ _ _ HL.out.b2
        have y2 : wq.frozen? ⟨w.heap.size + 1, 2, none⟩ = false := frozen_of_row _ _ _ _ _ HL.out.b2
        have y3 : wq.frozen? ⟨w.heap.size + 1, 3, none⟩ = false := frozen_of_row _ _ _ _ _ HL.out.b2
        have HF := hide (four_put wq (w.heap.size + 1) _ _ _ _ (.int .i64 (gK s)) (.string (⟨#[]⟩)) (.string (hdB (tlB s))) (.int .i64 (0)) _ HL.out.b2)
        have HB9 := hide (HL.out.below.trans (HF.out.1.mono (by omega)))
        clear d0 HL
        go_wp2_with fail
        refine bodyPost_ret (results_cell_row (P := Tryd.prog) rfl _ _ (w.heap.size + 1) _ _ _ _ rfl HF.out.2 Tryd.underlying23 rfl (by kernel_rfl)) rfl ⟨by rw [HP.out], HB9.out⟩
      | true =>
        rw [hx4] at HX4
        refine (HX4.out).mono ?_
        rintro e wq ⟨rfl, rfl⟩
        have HSr := hide (show ((tlB (tlB s)).size : Int) ≤ 1000000 by have := HS2.out; omega)
        go_wp2_with fail
        refine (next_grown w.heap.size (tlB (tlB s)) wq HSr.out HL.out.b1).mono ?_
        rintro e wn2 ⟨rfl, hg, hb⟩
        have HL2 := hide (HL.out.next hg hb)
        have HS3 := hide (show ((tlB (tlB (tlB s))).size : Int) ≤ 1000000 by have := HSr.out; have := (hd_size (tlB (tlB s))).2; omega)
        have HH2 := hide (show ((hdB (tlB (tlB s))).size : Int) ≤ 1000000 by have := HSr.out; have := (hd_size (tlB (tlB s))).1; omega)
        clear hg hb d0 HL HSr
        go_wp2_with fail
        refine (HA.out _ _ HH2.out HL2.out.below).mono ?_
        rintro e wa ⟨⟨ev, rfl⟩, hba⟩
        have HLa := hide (HL2.out.grown hba)
        clear hba HL2
        have y3 : wa.frozen? ⟨p, 3, none⟩ = false := frozen_of_row _ _ _ _ _ HLa.out.bE
        have x3 : wa.cell? ⟨p, 3, none⟩ = some (.int .i64 0) := cell_of_row _ _ _ _ _ _ HLa.out.bE
        have HLs := hide (HLa.out.set (e' := ⟨gK s, ⟨#[]⟩, hdB (tlB s), atoiN (toL (hdB (tlB (tlB s))))⟩) (k := 3) (v := .int .i64 (atoiN (toL (hdB (tlB (tlB s)))))) rfl)
        have d0 : (wa.setCell ⟨p, 3, none⟩ (.int .i64 (atoiN (toL (hdB (tlB (tlB s))))))).cell? ⟨p, 0, none⟩ = some (.int .i64 (gK s)) := cell_of_row _ _ _ _ _ _ HLs.out.bE
        clear HLa
        have HL := HLs
        clear HLs
        have hP : (guessT s).cells = #[.int .i64 (gK s), .string (⟨#[]⟩), .string (hdB (tlB s)), .int .i64 (atoiN (toL (hdB (tlB (tlB s)))))] := by unfold guessT g2 g1 Et.cells; rw [hx1, hx2, hx4]; rfl
        have HP := hide hP
        clear hP hx1 hx2 hx4
        have k0 : (wa.setCell ⟨p, 3, none⟩ (.int .i64 (atoiN (toL (hdB (tlB (tlB s))))))).cell? ⟨p, 0, none⟩ = some (.int .i64 (gK s)) := cell_of_row _ _ _ _ _ _ HL.out.bE
        have k1 : (wa.setCell ⟨p, 3, none⟩ (.int .i64 (atoiN (toL (hdB (tlB (tlB s))))))).cell? ⟨p, 1, none⟩ = some (.string (⟨#[]⟩)) := cell_of_row _ _ _ _ _ _ HL.out.bE
        have k2 : (wa.setCell ⟨p, 3, none⟩ (.int .i64 (atoiN (toL (hdB (tlB (tlB s))))))).cell? ⟨p, 2, none⟩ = some (.string (hdB (tlB s))) := cell_of_row _ _ _ _ _ _ HL.out.bE
        have k3 : (wa.setCell ⟨p, 3, none⟩ (.int .i64 (atoiN (toL (hdB (tlB (tlB s))))))).cell? ⟨p, 3, none⟩ = some (.int .i64 (atoiN (toL (hdB (tlB (tlB s)))))) := cell_of_row _ _ _ _ _ _ HL.out.bE
        have y0 : (wa.setCell ⟨p, 3, none⟩ (.int .i64 (atoiN (toL (hdB (tlB (tlB s))))))).frozen? ⟨w.heap.size + 1, 0, none⟩ = false := frozen_of_row _ _ _ _ _ HL.out.b2
        have m0 : (wa.setCell ⟨p, 3, none⟩ (.int .i64 (atoiN (toL (hdB (tlB (tlB s))))))).cell? ⟨w.heap.size + 1, 0, none⟩ = some (.int .i64 0) := cell_of_row _ _ _ _ _ _ HL.out.b2
        have m1 : (wa.setCell ⟨p, 3, none⟩ (.int .i64 (atoiN (toL (hdB (tlB (tlB s))))))).cell? ⟨w.heap.size + 1, 1, none⟩ = some (.string ⟨#[]⟩) := cell_of_row _ _ _ _ _ _ HL.out.b2
        have m2 : (wa.setCell ⟨p, 3, none⟩ (.int .i64 (atoiN (toL (hdB (tlB (tlB s))))))).cell? ⟨w.heap.size + 1, 2, none⟩ = some (.string ⟨#[]⟩) := cell_of_row _ _ _ _ _ _ HL.out.b2
        have m3 : (wa.setCell ⟨p, 3, none⟩ (.int .i64 (atoiN (toL (hdB (tlB (tlB s))))))).cell? ⟨w.heap.size + 1, 3, none⟩ = some (.int .i64 0) := cell_of_row _ _ _ _ _ _ HL.out.b2
        have y1 : (wa.setCell ⟨p, 3, none⟩ (.int .i64 (atoiN (toL (hdB (tlB (tlB s))))))).frozen? ⟨w.heap.size + 1, 1, none⟩ = false := frozen_of_row _ _ _ _ _ HL.out.b2
        have y2 : (wa.setCell ⟨p, 3, none⟩ (.int .i64 (atoiN (toL (hdB (tlB (tlB s))))))).frozen? ⟨w.heap.size + 1, 2, none⟩ = false := frozen_of_row _ _ _ _ _ HL.out.b2
        have y3 : (wa.setCell ⟨p, 3, none⟩ (.int .i64 (atoiN (toL (hdB (tlB (tlB s))))))).frozen? ⟨w.heap.size + 1, 3, none⟩ = false := frozen_of_row _ _ _ _ _ HL.out.b2
        have HF := hide (four_put (wa.setCell ⟨p, 3, none⟩ (.int .i64 (atoiN (toL (hdB (tlB (tlB s))))))) (w.heap.size + 1) _ _ _ _ (.int .i64 (gK s)) (.string (⟨#[]⟩)) (.string (hdB (tlB s))) (.int .i64 (atoiN (toL (hdB (tlB (tlB s)))))) _ HL.out.b2)
        have HB9 := hide (HL.out.below.trans (HF.out.1.mono (by omega)))
        clear d0 HL
        go_wp2_with fail
        refine bodyPost_ret (results_cell_row (P := Tryd.prog) rfl _ _ (w.heap.size + 1) _ _ _ _ rfl HF.out.2 Tryd.underlying23 rfl (by kernel_rfl)) rfl ⟨by rw [HP.out], HB9.out⟩
  | true =>
    rw [hx1] at HX1
    refine (HX1.out).mono ?_
    rintro e wq ⟨rfl, rfl⟩
    have HSr := hide (show ((tlB s).size : Int) ≤ 1000000 by have := HS1.out; omega)
    go_wp2_with fail
    refine (next_grown w.heap.size (tlB s) wq HSr.out HL.out.b1).mono ?_
    rintro e wn1 ⟨rfl, hg, hb⟩
    have HL1 := hide (HL.out.next hg hb)
    have HS2 := hide (show ((tlB (tlB s)).size : Int) ≤ 1000000 by have := HSr.out; have := (hd_size (tlB s)).2; omega)
    have HH1 := hide (show ((hdB (tlB s)).size : Int) ≤ 1000000 by have := HSr.out; have := (hd_size (tlB s)).1; omega)
    clear hg hb d0 HL HSr
    have y1 : wn1.frozen? ⟨p, 1, none⟩ = false := frozen_of_row _ _ _ _ _ HL1.out.bE
    have x1 : wn1.cell? ⟨p, 1, none⟩ = some (.string ⟨#[]⟩) := cell_of_row _ _ _ _ _ _ HL1.out.bE
    have HLs := hide (HL1.out.set (e' := ⟨gK s, hdB (tlB s), ⟨#[]⟩, 0⟩) (k := 1) (v := .string (hdB (tlB s))) rfl)
    have d0 : (wn1.setCell ⟨p, 1, none⟩ (.string (hdB (tlB s)))).cell? ⟨p, 0, none⟩ = some (.int .i64 (gK s)) := cell_of_row _ _ _ _ _ _ HLs.out.bE
    clear HL1
    go_wp2_with fail
    obtain ⟨ws1, hws1⟩ : ∃ W, W = wn1.setCell ⟨p, 1, none⟩ (.string (hdB (tlB s))) := ⟨_, rfl⟩
    rw [← hws1] at HLs d0 ⊢
    clear hws1 y1 x1
    have HL := HLs
    clear HLs
    have HX2 := hide (HX.out ws1 HL.out.below 2 (by simp))
    cases hx2 : hasX (gK s) 2 with
    | false =>
      rw [hx2] at HX2
      refine (HX2.out).mono ?_
      rintro e wq ⟨rfl, rfl⟩
      go_wp2_with fail
      have HX4 := hide (HX.out wq HL.out.below 4 (by simp))
      cases hx4 : hasX (gK s) 4 with
      | false =>
        rw [hx4] at HX4
        refine (HX4.out).mono ?_
        rintro e wq ⟨rfl, rfl⟩
        have hP : (guessT s).cells = #[.int .i64 (gK s), .string (hdB (tlB s)), .string (⟨#[]⟩), .int .i64 (0)] := by unfold guessT g2 g1 Et.cells; rw [hx1, hx2, hx4]; rfl
        have HP := hide hP
        clear hP hx1 hx2 hx4
        have k0 : wq.cell? ⟨p, 0, none⟩ = some (.int .i64 (gK s)) := cell_of_row _ _ _ _ _ _ HL.out.bE
        have k1 : wq.cell? ⟨p, 1, none⟩ = some (.string (hdB (tlB s))) := cell_of_row _ _ _ _ _ _ HL.out.bE
        have k2 : wq.cell? ⟨p, 2, none⟩ = some (.string (⟨#[]⟩)) := cell_of_row _ _ _ _ _ _ HL.out.bE
        have k3 : wq.cell? ⟨p, 3, none⟩ = some (.int .i64 (0)) := cell_of_row _ _ _ _ _ _ HL.out.bE
        have y0 : wq.frozen? ⟨w.heap.size + 1, 0, none⟩ = false := frozen_of_row _ _ _ _ _ HL.out.b2
        have m0 : wq.cell? ⟨w.heap.size + 1, 0, none⟩ = some (.int .i64 0) := cell_of_row _ _ _ _ _ _ HL.out.b2
        have m1 : wq.cell? ⟨w.heap.size + 1, 1, none⟩ = some (.string ⟨#[]⟩) := cell_of_row _ _ _ _ _ _ HL.out.b2
        have m2 : wq.cell? ⟨w.heap.size + 1, 2, none⟩ = some (.string ⟨#[]⟩) := cell_of_row _ _ _ _ _ _ HL.out.b2
        have m3 : wq.cell? ⟨w.heap.size + 1, 3, none⟩ = some (.int .i64 0) := cell_of_row _ _ _ _ _ _ HL.out.b2
        have y1 : wq.frozen? ⟨w.heap.size + 1, 1, none⟩ = false := frozen_of_row _ _ _ _ _ HL.out.b2
        have y2 : wq.frozen? ⟨w.heap.size + 1, 2, none⟩ = false := frozen_of_row _ _ _ _ _ HL.out.b2
        have y3 : wq.frozen? ⟨w.heap.size + 1, 3, none⟩ = false := frozen_of_row _ _ _ _ _ HL.out.b2
        have HF := hide (four_put wq (w.heap.size + 1) _ _ _ _ (.int .i64 (gK s)) (.string (hdB (tlB s))) (.string (⟨#[]⟩)) (.int .i64 (0)) _ HL.out.b2)
        have HB9 := hide (HL.out.below.trans (HF.out.1.mono (by omega)))
        clear d0 HL
        go_wp2_with fail
        refine bodyPost_ret (results_cell_row (P := Tryd.prog) rfl _ _ (w.heap.size + 1) _ _ _ _ rfl HF.out.2 Tryd.underlying23 rfl (by kernel_rfl)) rfl ⟨by rw [HP.out], HB9.out⟩
      | true =>
        rw [hx4] at HX4
        refine (HX4.out).mono ?_
        rintro e wq ⟨rfl, rfl⟩
        have HSr := hide (show ((tlB (tlB s)).size : Int) ≤ 1000000 by have := HS2.out; omega)
        go_wp2_with fail
        refine (next_grown w.heap.size (tlB (tlB s)) wq HSr.out HL.out.b1).mono ?_
        rintro e wn2 ⟨rfl, hg, hb⟩
        have HL2 := hide (HL.out.next hg hb)
        have HS3 := hide (show ((tlB (tlB (tlB s))).size : Int) ≤ 1000000 by have := HSr.out; have := (hd_size (tlB (tlB s))).2; omega)
        have HH2 := hide (show ((hdB (tlB (tlB s))).size : Int) ≤ 1000000 by have := HSr.out; have := (hd_size (tlB (tlB s))).1; omega)
        clear hg hb d0 HL HSr
        go_wp2_with fail
        refine (HA.out _ _ HH2.out HL2.out.below).mono ?_
        rintro e wa ⟨⟨ev, rfl⟩, hba⟩
        have HLa := hide (HL2.out.grown hba)
        clear hba HL2
        have y3 : wa.frozen? ⟨p, 3, none⟩ = false := frozen_of_row _ _ _ _ _ HLa.out.bE
        have x3 : wa.cell? ⟨p, 3, none⟩ = some (.int .i64 0) := cell_of_row _ _ _ _ _ _ HLa.out.bE
        have HLs := hide (HLa.out.set (e' := ⟨gK s, hdB (tlB s), ⟨#[]⟩, atoiN (toL (hdB (tlB (tlB s))))⟩) (k := 3) (v := .int .i64 (atoiN (toL (hdB (tlB (tlB s)))))) rfl)
        have d0 : (wa.setCell ⟨p, 3, none⟩ (.int .i64 (atoiN (toL (hdB (tlB (tlB s))))))).cell? ⟨p, 0, none⟩ = some (.int .i64 (gK s)) := cell_of_row _ _ _ _ _ _ HLs.out.bE
        clear HLa
        have HL := HLs
        clear HLs
        have hP : (guessT s).cells = #[.int .i64 (gK s), .string (hdB (tlB s)), .string (⟨#[]⟩), .int .i64 (atoiN (toL (hdB (tlB (tlB s)))))] := by unfold guessT g2 g1 Et.cells; rw [hx1, hx2, hx4]; rfl
        have HP := hide hP
        clear hP hx1 hx2 hx4
        have k0 : (wa.setCell ⟨p, 3, none⟩ (.int .i64 (atoiN (toL (hdB (tlB (tlB s))))))).cell? ⟨p, 0, none⟩ = some (.int .i64 (gK s)) := cell_of_row _ _ _ _ _ _ HL.out.bE
        have k1 : (wa.setCell ⟨p, 3, none⟩ (.int .i64 (atoiN (toL (hdB (tlB (tlB s))))))).cell? ⟨p, 1, none⟩ = some (.string (hdB (tlB s))) := cell_of_row _ _ _ _ _ _ HL.out.bE
        have k2 : (wa.setCell ⟨p, 3, none⟩ (.int .i64 (atoiN (toL (hdB (tlB (tlB s))))))).cell? ⟨p, 2, none⟩ = some (.string (⟨#[]⟩)) := cell_of_row _ _ _ _ _ _ HL.out.bE
        have k3 : (wa.setCell ⟨p, 3, none⟩ (.int .i64 (atoiN (toL (hdB (tlB (tlB s))))))).cell? ⟨p, 3, none⟩ = some (.int .i64 (atoiN (toL (hdB (tlB (tlB s)))))) := cell_of_row _ _ _ _ _ _ HL.out.bE
        have y0 : (wa.setCell ⟨p, 3, none⟩ (.int .i64 (atoiN (toL (hdB (tlB (tlB s))))))).frozen? ⟨w.heap.size + 1, 0, none⟩ = false := frozen_of_row _ _ _ _ _ HL.out.b2
        have m0 : (wa.setCell ⟨p, 3, none⟩ (.int .i64 (atoiN (toL (hdB (tlB (tlB s))))))).cell? ⟨w.heap.size + 1, 0, none⟩ = some (.int .i64 0) := cell_of_row _ _ _ _ _ _ HL.out.b2
        have m1 : (wa.setCell ⟨p, 3, none⟩ (.int .i64 (atoiN (toL (hdB (tlB (tlB s))))))).cell? ⟨w.heap.size + 1, 1, none⟩ = some (.string ⟨#[]⟩) := cell_of_row _ _ _ _ _ _ HL.out.b2
        have m2 : (wa.setCell ⟨p, 3, none⟩ (.int .i64 (atoiN (toL (hdB (tlB (tlB s))))))).cell? ⟨w.heap.size + 1, 2, none⟩ = some (.string ⟨#[]⟩) := cell_of_row _ _ _ _ _ _ HL.out.b2
        have m3 : (wa.setCell ⟨p, 3, none⟩ (.int .i64 (atoiN (toL (hdB (tlB (tlB s))))))).cell? ⟨w.heap.size + 1, 3, none⟩ = some (.int .i64 0) := cell_of_row _ _ _ _ _ _ HL.out.b2
        have y1 : (wa.setCell ⟨p, 3, none⟩ (.int .i64 (atoiN (toL (hdB (tlB (tlB s))))))).frozen? ⟨w.heap.size + 1, 1, none⟩ = false := frozen_of_row _ _ _ _ _ HL.out.b2
        have y2 : (wa.setCell ⟨p, 3, none⟩ (.int .i64 (atoiN (toL (hdB (tlB (tlB s))))))).frozen? ⟨w.heap.size + 1, 2, none⟩ = false := frozen_of_row _ _ _ _ _ HL.out.b2
        have y3 : (wa.setCell ⟨p, 3, none⟩ (.int .i64 (atoiN (toL (hdB (tlB (tlB s))))))).frozen? ⟨w.heap.size + 1, 3, none⟩ = false := frozen_of_row _ _ _ _ _ HL.out.b2
        have HF := hide (four_put (wa.setCell ⟨p, 3, none⟩ (.int .i64 (atoiN (toL (hdB (tlB (tlB s))))))) (w.heap.size + 1) _ _ _ _ (.int .i64 (gK s)) (.string (hdB (tlB s))) (.string (⟨#[]⟩)) (.int .i64 (atoiN (toL (hdB (tlB (tlB s)))))) _ HL.out.b2)
        have HB9 := hide (HL.out.below.trans (HF.out.1.mono (by omega)))
        clear d0 HL
        go_wp2_with fail
        refine bodyPost_ret (results_cell_row (P := Tryd.prog) rfl _ _ (w.heap.size + 1) _ _ _ _ rfl HF.out.2 Tryd.underlying23 rfl (by kernel_rfl)) rfl ⟨by rw [HP.out], HB9.out⟩
    | true =>
      rw [hx2] at HX2
      refine (HX2.out).mono ?_
      rintro e wq ⟨rfl, rfl⟩
      have HSr := hide (show ((tlB (tlB s)).size : Int) ≤ 1000000 by have := HS2.out; omega)
      go_wp2_with fail
      refine (next_grown w.heap.size (tlB (tlB s)) wq HSr.out HL.out.b1).mono ?_
      rintro e wn2 ⟨rfl, hg, hb⟩
      have HL2 := hide (HL.out.next hg hb)
      have HS3 := hide (show ((tlB (tlB (tlB s))).size : Int) ≤ 1000000 by have := HSr.out; have := (hd_size (tlB (tlB s))).2; omega)
      have HH2 := hide (show ((hdB (tlB (tlB s))).size : Int) ≤ 1000000 by have := HSr.out; have := (hd_size (tlB (tlB s))).1; omega)
      clear hg hb d0 HL HSr
      have y2 : wn2.frozen? ⟨p, 2, none⟩ = false := frozen_of_row _ _ _ _ _ HL2.out.bE
      have x2 : wn2.cell? ⟨p, 2, none⟩ = some (.string ⟨#[]⟩) := cell_of_row _ _ _ _ _ _ HL2.out.bE
      have HLs := hide (HL2.out.set (e' := ⟨gK s, hdB (tlB s), hdB (tlB (tlB s)), 0⟩) (k := 2) (v := .string (hdB (tlB (tlB s)))) rfl)
      have d0 : (wn2.setCell ⟨p, 2, none⟩ (.string (hdB (tlB (tlB s))))).cell? ⟨p, 0, none⟩ = some (.int .i64 (gK s)) := cell_of_row _ _ _ _ _ _ HLs.out.bE
      clear HL2
      go_wp2_with fail
      obtain ⟨ws2, hws2⟩ : ∃ W, W = wn2.setCell ⟨p, 2, none⟩ (.string (hdB (tlB (tlB s)))) := ⟨_, rfl⟩
      rw [← hws2] at HLs d0 ⊢
      clear hws2 y2 x2
      have HL := HLs
      clear HLs
      have HX4 := hide (HX.out ws2 HL.out.below 4 (by simp))
      cases hx4 : hasX (gK s) 4 with
      | false =>
        rw [hx4] at HX4
        refine (HX4.out).mono ?_
        rintro e wq ⟨rfl, rfl⟩
        have hP : (guessT s).cells = #[.int .i64 (gK s), .string (hdB (tlB s)), .string (hdB (tlB (tlB s))), .int .i64 (0)] := by unfold guessT g2 g1 Et.cells; rw [hx1, hx2, hx4]; rfl
        have HP := hide hP
        clear hP hx1 hx2 hx4
        have k0 : wq.cell? ⟨p, 0, none⟩ = some (.int .i64 (gK s)) := cell_of_row _ _ _ _ _ _ HL.out.bE
        have k1 : wq.cell? ⟨p, 1, none⟩ = some (.string (hdB (tlB s))) := cell_of_row _ _ _ _ _ _ HL.out.bE
        have k2 : wq.cell? ⟨p, 2, none⟩ = some (.string (hdB (tlB (tlB s)))) := cell_of_row _ _ _ _ _ _ HL.out.bE
        have k3 : wq.cell? ⟨p, 3, none⟩ = some (.int .i64 (0)) := cell_of_row _ _ _ _ _ _ HL.out.bE
        have y0 : wq.frozen? ⟨w.heap.size + 1, 0, none⟩ = false := frozen_of_row _ _ _ _ _ HL.out.b2
        have m0 : wq.cell? ⟨w.heap.size + 1, 0, none⟩ = some (.int .i64 0) := cell_of_row _ _ _ _ _ _ HL.out.b2
        have m1 : wq.cell? ⟨w.heap.size + 1, 1, none⟩ = some (.string ⟨#[]⟩) := cell_of_row _ _ _ _ _ _ HL.out.b2
        have m2 : wq.cell? ⟨w.heap.size + 1, 2, none⟩ = some (.string ⟨#[]⟩) := cell_of_row _ _ _ _ _ _ HL.out.b2
        have m3 : wq.cell? ⟨w.heap.size + 1, 3, none⟩ = some (.int .i64 0) := cell_of_row _ _ _ _ _ _ HL.out.b2
        have y1 : wq.frozen? ⟨w.heap.size + 1, 1, none⟩ = false := frozen_of_row _ _ _ _ _ HL.out.b2
        have y2 : wq.frozen? ⟨w.heap.size + 1, 2, none⟩ = false := frozen_of_row _ _ _ _ _ HL.out.b2
        have y3 : wq.frozen? ⟨w.heap.size + 1, 3, none⟩ = false := frozen_of_row _ _ _ _ _ HL.out.b2
        have HF := hide (four_put wq (w.heap.size + 1) _ _ _ _ (.int .i64 (gK s)) (.string (hdB (tlB s))) (.string (hdB (tlB (tlB s)))) (.int .i64 (0)) _ HL.out.b2)
        have HB9 := hide (HL.out.below.trans (HF.out.1.mono (by omega)))
        clear d0 HL
        go_wp2_with fail
        refine bodyPost_ret (results_cell_row (P := Tryd.prog) rfl _ _ (w.heap.size + 1) _ _ _ _ rfl HF.out.2 Tryd.underlying23 rfl (by kernel_rfl)) rfl ⟨by rw [HP.out], HB9.out⟩
      | true =>
        rw [hx4] at HX4
        refine (HX4.out).mono ?_
        rintro e wq ⟨rfl, rfl⟩
        have HSr := hide (show ((tlB (tlB (tlB s))).size : Int) ≤ 1000000 by have := HS3.out; omega)
        go_wp2_with fail
        refine (next_grown w.heap.size (tlB (tlB (tlB s))) wq HSr.out HL.out.b1).mono ?_
        rintro e wn3 ⟨rfl, hg, hb⟩
        have HL3 := hide (HL.out.next hg hb)
        have HS4 := hide (show ((tlB (tlB (tlB (tlB s)))).size : Int) ≤ 1000000 by have := HSr.out; have := (hd_size (tlB (tlB (tlB s)))).2; omega)
        have HH3 := hide (show ((hdB (tlB (tlB (tlB s)))).size : Int) ≤ 1000000 by have := HSr.out; have := (hd_size (tlB (tlB (tlB s)))).1; omega)
        clear hg hb d0 HL HSr
        go_wp2_with fail
        refine (HA.out _ _ HH3.out HL3.out.below).mono ?_
        rintro e wa ⟨⟨ev, rfl⟩, hba⟩
        have HLa := hide (HL3.out.grown hba)
        clear hba HL3
        have y3 : wa.frozen? ⟨p, 3, none⟩ = false := frozen_of_row _ _ _ _ _ HLa.out.bE
        have x3 : wa.cell? ⟨p, 3, none⟩ = some (.int .i64 0) := cell_of_row _ _ _ _ _ _ HLa.out.bE
        have HLs := hide (HLa.out.set (e' := ⟨gK s, hdB (tlB s), hdB (tlB (tlB s)), atoiN (toL (hdB (tlB (tlB (tlB s)))))⟩) (k := 3) (v := .int .i64 (atoiN (toL (hdB (tlB (tlB (tlB s))))))) rfl)
        have d0 : (wa.setCell ⟨p, 3, none⟩ (.int .i64 (atoiN (toL (hdB (tlB (tlB (tlB s)))))))).cell? ⟨p, 0, none⟩ = some (.int .i64 (gK s)) := cell_of_row _ _ _ _ _ _ HLs.out.bE
        clear HLa
        have HL := HLs
        clear HLs
        have hP : (guessT s).cells = #[.int .i64 (gK s), .string (hdB (tlB s)), .string (hdB (tlB (tlB s))), .int .i64 (atoiN (toL (hdB (tlB (tlB (tlB s))))))] := by unfold guessT g2 g1 Et.cells; rw [hx1, hx2, hx4]; rfl
        have HP := hide hP
        clear hP hx1 hx2 hx4
        have k0 : (wa.setCell ⟨p, 3, none⟩ (.int .i64 (atoiN (toL (hdB (tlB (tlB (tlB s)))))))).cell? ⟨p, 0, none⟩ = some (.int .i64 (gK s)) := cell_of_row _ _ _ _ _ _ HL.out.bE
        have k1 : (wa.setCell ⟨p, 3, none⟩ (.int .i64 (atoiN (toL (hdB (tlB (tlB (tlB s)))))))).cell? ⟨p, 1, none⟩ = some (.string (hdB (tlB s))) := cell_of_row _ _ _ _ _ _ HL.out.bE
        have k2 : (wa.setCell ⟨p, 3, none⟩ (.int .i64 (atoiN (toL (hdB (tlB (tlB (tlB s)))))))).cell? ⟨p, 2, none⟩ = some (.string (hdB (tlB (tlB s)))) := cell_of_row _ _ _ _ _ _ HL.out.bE
        have k3 : (wa.setCell ⟨p, 3, none⟩ (.int .i64 (atoiN (toL (hdB (tlB (tlB (tlB s)))))))).cell? ⟨p, 3, none⟩ = some (.int .i64 (atoiN (toL (hdB (tlB (tlB (tlB s))))))) := cell_of_row _ _ _ _ _ _ HL.out.bE
        have y0 : (wa.setCell ⟨p, 3, none⟩ (.int .i64 (atoiN (toL (hdB (tlB (tlB (tlB s)))))))).frozen? ⟨w.heap.size + 1, 0, none⟩ = false := frozen_of_row _ _ _ _ _ HL.out.b2
        have m0 : (wa.setCell ⟨p, 3, none⟩ (.int .i64 (atoiN (toL (hdB (tlB (tlB (tlB s)))))))).cell? ⟨w.heap.size + 1, 0, none⟩ = some (.int .i64 0) := cell_of_row _ _ _ _ _ _ HL.out.b2
        have m1 : (wa.setCell ⟨p, 3, none⟩ (.int .i64 (atoiN (toL (hdB (tlB (tlB (tlB s)))))))).cell? ⟨w.heap.size + 1, 1, none⟩ = some (.string ⟨#[]⟩) := cell_of_row _ _ _ _ _ _ HL.out.b2
        have m2 : (wa.setCell ⟨p, 3, none⟩ (.int .i64 (atoiN (toL (hdB (tlB (tlB (tlB s)))))))).cell? ⟨w.heap.size + 1, 2, none⟩ = some (.string ⟨#[]⟩) := cell_of_row _ _ _ _ _ _ HL.out.b2
        have m3 : (wa.setCell ⟨p, 3, none⟩ (.int .i64 (atoiN (toL (hdB (tlB (tlB (tlB s)))))))).cell? ⟨w.heap.size + 1, 3, none⟩ = some (.int .i64 0) := cell_of_row _ _ _ _ _ _ HL.out.b2
        have y1 : (wa.setCell ⟨p, 3, none⟩ (.int .i64 (atoiN (toL (hdB (tlB (tlB (tlB s)))))))).frozen? ⟨w.heap.size + 1, 1, none⟩ = false := frozen_of_row _ _ _ _ _ HL.out.b2
        have y2 : (wa.setCell ⟨p, 3, none⟩ (.int .i64 (atoiN (toL (hdB (tlB (tlB (tlB s)))))))).frozen? ⟨w.heap.size + 1, 2, none⟩ = false := frozen_of_row _ _ _ _ _ HL.out.b2
        have y3 : (wa.setCell ⟨p, 3, none⟩ (.int .i64 (atoiN (toL (hdB (tlB (tlB (tlB s)))))))).frozen? ⟨w.heap.size + 1, 3, none⟩ = false := frozen_of_row _ _ _ _ _ HL.out.b2
        have HF := hide (four_put (wa.setCell ⟨p, 3, none⟩ (.int .i64 (atoiN (toL (hdB (tlB (tlB (tlB s)))))))) (w.heap.size + 1) _ _ _ _ (.int .i64 (gK s)) (.string (hdB (tlB s))) (.string (hdB (tlB (tlB s)))) (.int .i64 (atoiN (toL (hdB (tlB (tlB (tlB s))))))) _ HL.out.b2)
        have HB9 := hide (HL.out.below.trans (HF.out.1.mono (by omega)))
        clear d0 HL
        go_wp2_with fail
        refine bodyPost_ret (results_cell_row (P := Tryd.prog) rfl _ _ (w.heap.size + 1) _ _ _ _ rfl HF.out.2 Tryd.underlying23 rfl (by kernel_rfl)) rfl ⟨by rw [HP.out], HB9.out⟩
end Go.Proofs.YtlohoamhgioheaaDoor
