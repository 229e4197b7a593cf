/-
  Options, as a call finds them.
-/
import Derived.Test.YteoafohebgfjdaaGreatDoorAutoRuleOpen
import Derived.OpenShut
namespace Go.Proofs.YteoafohebgfjdaaGreatDoor
open Go.RowKit Go.ChangeShapes Go.WideShapes
set_option maxRecDepth 100000

/-- Options' six cells. -/
def optC (del dry trust : Bool) (A : Option Addr) (n c : Nat) (x y : Int) : Array Value := #[.bool del, .bool dry, .bool trust, .slice A n c, .int .i64 x, .int .i64 y]
theorem agg_of_cells {v a b c d e f : Value} (h : v.cells.toList = [a, b, c, d, e, f]) : v = .agg #[a, b, c, d, e, f] := by
  cases v with
  | agg xs =>
    have h' : xs.toList = [a, b, c, d, e, f] := h
    rw [show xs = #[a, b, c, d, e, f] from Array.toList_inj.1 (by simpa using h')]
  | _ => simp [Value.cells] at h
theorem open_ruleF {H : Type} {enc : TypeId × Value → H} {W : World} {fuel : Nat} {cs : List Value} {x : DataW H × List MemPlace} (h : DataW.trod enc Tryz.prog W 0 (fun _ => true) true fuel 23 cs = some x) :
    ∃ (A : Option Addr) (l : List (Bool × ByteArray)) (c : Nat), cs = [.slice A l.length c] ∧ RdR W W.heap.size A l := by
  have hC : Tryz.prog.cellsOf 57 = 2 := by kernel_rfl
  rcases Go.Deep.open_slice Tryz.underlying23 h with ⟨hcs, _⟩ | ⟨a, len, cap, m, n, D, Pl, hcs, _, _, _, hm, _, hi⟩
  · exact ⟨none, [], 0, hcs, RdR.nil _ _ _⟩
  · obtain ⟨l, hll, hp⟩ := list_of (fun i (b : Bool × ByteArray) => W.cell? ((a.add (i * 2)).add 0) = some (.bool b.1) ∧ W.cell? ((a.add (i * 2)).add 1) = some (.string b.2)) len (fun i hlt => by
      obtain ⟨cs', hc, ht⟩ := hi i (by rw [hm]; split <;> omega)
      obtain ⟨b, rfl⟩ := open_rule ht
      rw [hC] at hc
      obtain ⟨_, _, hat⟩ := World.cells?_some hc
      exact ⟨b, hat 0 (by decide), hat 1 (by decide)⟩)
    refine ⟨some a, l, cap, by rw [hll]; exact hcs, fun k r hr => ?_⟩
    obtain ⟨h0, h1⟩ := hp k r hr
    have e0 : (a.add (k * 2)).add 0 = a.add (k * 2) := by unfold Addr.add; simp
    rw [e0] at h0
    refine ⟨a, rfl, ?_, h0, ?_⟩
    · have := cell_lt h0
      rwa [add_block] at this
    · have e1 : (a.add (k * 2)).add 1 = ⟨(a.add (k * 2)).block, (a.add (k * 2)).off + 1, none⟩ := by
        unfold Addr.add
        split <;> simp_all
      rw [← e1]; exact h1
/-- Options that a call is given. -/
theorem open_options {H : Type} {enc : TypeId × Value → H} {W : World} {v : Value} {d : DataW H} {ps : List MemPlace} (h : DataW.Trod enc Tryz.prog W 0 (fun _ => true) true 25 v d ps) :
    ∃ (del dry trust : Bool) (A : Option Addr) (l : List (Bool × ByteArray)) (c : Nat) (x y : Int), v = .agg (optC del dry trust A l.length c x y) ∧ RdR W W.heap.size A l := by
  obtain ⟨fuel, hf⟩ := h
  obtain ⟨xs, n, _, _, hc, hlen, hff⟩ := DataW.trod_struct Tryz.underlying25 hf
  have hC : Tryz.prog.cellsOf 25 = 6 := by kernel_rfl
  have u1 : Tryz.prog.cellsOf 4 = 1 := by kernel_rfl
  have u2 : Tryz.prog.cellsOf 23 = 1 := by kernel_rfl
  have u3 : Tryz.prog.cellsOf 3 = 1 := by kernel_rfl
  rw [hC] at hc
  obtain ⟨cs, hcs⟩ : ∃ cs, cs = v.cells.toList := ⟨_, rfl⟩
  rw [← hcs] at hc hff
  match cs, hc, xs, hlen with
  | [c0, c1, c2, c3, c4, c5], _, [y0, y1, y2, y3, y4, y5], _ =>
    have h0 : DataW.trod enc Tryz.prog W 0 (fun _ => true) true n 4 (([c0, c1, c2, c3, c4, c5].drop 0).take (Tryz.prog.cellsOf 4)) = [y0, y1, y2, y3, y4, y5][0]? := hff 0 _ rfl
    have h1 : DataW.trod enc Tryz.prog W 0 (fun _ => true) true n 4 (([c0, c1, c2, c3, c4, c5].drop 1).take (Tryz.prog.cellsOf 4)) = [y0, y1, y2, y3, y4, y5][1]? := hff 1 _ rfl
    have h2 : DataW.trod enc Tryz.prog W 0 (fun _ => true) true n 4 (([c0, c1, c2, c3, c4, c5].drop 2).take (Tryz.prog.cellsOf 4)) = [y0, y1, y2, y3, y4, y5][2]? := hff 2 _ rfl
    have h3 : DataW.trod enc Tryz.prog W 0 (fun _ => true) true n 23 (([c0, c1, c2, c3, c4, c5].drop 3).take (Tryz.prog.cellsOf 23)) = [y0, y1, y2, y3, y4, y5][3]? := hff 3 _ rfl
    have h4 : DataW.trod enc Tryz.prog W 0 (fun _ => true) true n 3 (([c0, c1, c2, c3, c4, c5].drop 4).take (Tryz.prog.cellsOf 3)) = [y0, y1, y2, y3, y4, y5][4]? := hff 4 _ rfl
    have h5 : DataW.trod enc Tryz.prog W 0 (fun _ => true) true n 3 (([c0, c1, c2, c3, c4, c5].drop 5).take (Tryz.prog.cellsOf 3)) = [y0, y1, y2, y3, y4, y5][5]? := hff 5 _ rfl
    rw [u1] at h0 h1 h2
    rw [u2] at h3
    rw [u3] at h4 h5
    obtain ⟨b0, e0, _⟩ := DataW.trod_bool Tryz.underlying4 h0
    obtain ⟨b1, e1, _⟩ := DataW.trod_bool Tryz.underlying4 h1
    obtain ⟨b2, e2, _⟩ := DataW.trod_bool Tryz.underlying4 h2
    obtain ⟨A, l, c, e3, hR⟩ := open_ruleF h3
    obtain ⟨x, e4, _⟩ := DataW.trod_int Tryz.underlying3 h4
    obtain ⟨y, e5, _⟩ := DataW.trod_int Tryz.underlying3 h5
    cases e0; cases e1; cases e2; cases e3; cases e4; cases e5
    exact ⟨b0, b1, b2, A, l, c, x, y, agg_of_cells hcs.symm, hR⟩
/-- Options in a block of their own. -/
structure OB (g : Nat) (del dry trust : Bool) (C : Option Addr) (n f : Nat) (x y : Int) (W : World) : Prop where
  row : W.heap[g]? = some (.cells #[.bool del, .bool dry, .bool trust, .slice C n f, .int .i64 x, .int .i64 y] 25 (0, 0))
theorem OB.step {g n f : Nat} {del dry trust : Bool} {C : Option Addr} {x y : Int} {W W' : World} (h : OB g del dry trust C n f x y W) (hb : Below W.heap.size W W') : OB g del dry trust C n f x y W' :=
  ⟨(hb.block _ (Array.getElem?_eq_some_iff.1 h.row).1).trans h.row⟩
theorem OB.rules {g n f : Nat} {del dry trust : Bool} {C : Option Addr} {x y : Int} {W : World} (h : OB g del dry trust C n f x y W) : W.cell? ⟨g, 3, none⟩ = some (.slice C n f) := cell_of_row _ _ _ _ _ _ h.row
theorem OB.del {g n f : Nat} {del dry trust : Bool} {C : Option Addr} {x y : Int} {W : World} (h : OB g del dry trust C n f x y W) : W.cell? ⟨g, 0, none⟩ = some (.bool del) := cell_of_row _ _ _ _ _ _ h.row
end Go.Proofs.YteoafohebgfjdaaGreatDoor
