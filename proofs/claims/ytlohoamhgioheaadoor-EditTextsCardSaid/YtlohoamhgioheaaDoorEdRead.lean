/-
  edit.Read.
-/
import Derived.Test.YtlohoamhgioheaaDoorEdGuessAll
namespace Go.Proofs.YtlohoamhgioheaaDoor
open Go.RowKit
set_option maxRecDepth 100000

theorem results_row2 {P : Program} {fn : Func} {p a : Tmp} {ty : TypeId} (h : fn.results = #[.cell p ty, .tmp a]) (tmps : Array Value) (w : World) (g : Nat) (t : TypeId) (cs : Array Value) (fr : Nat × Nat) (d : TypeDesc)
    (hp : tmps.getD p undef = .pointer (some ⟨g, 0, none⟩)) (hg : w.heap[g]? = some (.cells cs t fr))
    (hu : P.underlying ty = some d) (hd : (match d with | .struct _ | .array _ _ => true | _ => false) = true) (hi : (P.info? ty).map (·.size) = some cs.size) :
    (results fn tmps).run P w = .ok (.tuple #[.agg cs, tmps.getD a undef]) w := by
  have hp' : tmps[p]?.getD undef = .pointer (some ⟨g, 0, none⟩) := by simpa using hp
  simp [results, h, hp', asAddr, run_loadVar_row w g t ty cs fr d hg hu hd hi]
def lineT (e : Et) : ByteArray := lineB e.k e.f e.t e.n
/-- Is a text an edit's line? -/
def okR (s : ByteArray) : Bool := !(lineT (guessT s)).toList.isEmpty && ((lineT (guessT s)).toList == s.toList)
/-- What Read answers. -/
def readT (s : ByteArray) : Et := if okR s then guessT s else zeroEt
def readF (s : ByteArray) : Int := if okR s then 0 else 3
theorem guess_size (s : ByteArray) : (guessT s).f.size ≤ s.size ∧ (guessT s).t.size ≤ s.size := by
  have h1 := hd_size s
  have h2 := hd_size (tlB s)
  have h3 := hd_size (tlB (tlB s))
  unfold guessT g1
  constructor
  · show (if hasX (gK s) 1 = true then hdB (tlB s) else ⟨#[]⟩ : ByteArray).size ≤ s.size
    split
    · omega
    · exact Nat.zero_le _
  · show (if hasX (gK s) 2 = true then hdB (if hasX (gK s) 1 = true then tlB (tlB s) else tlB s) else ⟨#[]⟩ : ByteArray).size ≤ s.size
    split
    · split <;> omega
    · exact Nat.zero_le _

set_option maxHeartbeats 4000000 in
theorem read_any (s : ByteArray) (w : World) (hs : (s.size : Int) ≤ 300000) (hT : Tabs w) (hE : Errs w) :
    Calls Tryd.prog 14 #[.string s] w fun e w' => e = .returned (.tuple #[.agg (readT s).cells, .int .i64 (readF s)]) ∧ Below w.heap.size w w' := by
  have HT := hide hT
  have HEr := hide hE
  have HGu := hide (fun W (hb : Below w.heap.size w W) => guess_any s W (by omega) (HT.out.below hb) (HEr.out.below hb))
  have hz := guess_size s
  have HL := hide (fun W (hb : Below w.heap.size w W) => line_any (guessT s).k (guessT s).f (guessT s).t (guessT s).n W (HT.out.below hb) (by omega) (by omega))
  clear hT hE hz
  have HL2 := hide (show ∀ W, Below w.heap.size w W → Calls Tryd.prog 8 #[.agg (guessT s).cells] W fun e w' => e = .returned (.string (lineT (guessT s))) ∧ Below W.heap.size W w' from HL.out)
  have HF := hide (show (okR s = true → readT s = guessT s ∧ readF s = 0) ∧ (okR s = false → readT s = zeroEt ∧ readF s = 3) from ⟨fun h => by unfold readT readF; rw [h]; exact ⟨rfl, rfl⟩, fun h => by unfold readT readF; rw [h]; exact ⟨rfl, rfl⟩⟩)
  have ho : okR s = (!(lineT (guessT s)).toList.isEmpty && ((lineT (guessT s)).toList == s.toList)) := rfl
  obtain ⟨G, hG⟩ : ∃ G, G = guessT s := ⟨_, rfl⟩
  rw [← hG] at HGu HL2 HF ho
  clear HL hG
  obtain ⟨LB, hLB⟩ : ∃ LB, LB = lineT G := ⟨_, rfl⟩
  rw [← hLB] at HL2 ho
  clear hLB
  obtain ⟨k, f, t, n⟩ := G
  have HGu2 := hide (show ∀ W, Below w.heap.size w W → Calls Tryd.prog 30 #[.string s] W fun e w' => e = .returned (.agg #[.int .i64 k, .string f, .string t, .int .i64 n]) ∧ Below W.heap.size W w' from HGu.out)
  have HL3 := hide (show ∀ W, Below w.heap.size w W → Calls Tryd.prog 8 #[.agg #[.int .i64 k, .string f, .string t, .int .i64 n]] W fun e w' => e = .returned (.string LB) ∧ Below W.heap.size W w' from HL2.out)
  clear HGu HL2
  go_enter Tryd.func14, Tryd.ntmps14
  obtain ⟨w1, hw1⟩ : ∃ w1, w1 = w.alloc (.cells zeroEt.cells 23) := ⟨_, rfl⟩
  have HB1 := hide (show Below w.heap.size w w1 by rw [hw1]; exact (Below.refl _ w).alloc (Nat.le_refl _) _)
  have hr1 : w1.heap[w.heap.size]? = some (.cells zeroEt.cells 23 (0, 0)) := by rw [hw1]; exact World.alloc_heap_new _ _
  have hs1 : w.heap.size < w1.heap.size := by rw [hw1]; simp
  simp only [zeroEt, Et.cells] at hw1
  go_wp2_with fail
  rw [← hw1]
  clear hw1
  refine (HGu2.out _ HB1.out).mono ?_
  rintro e w2 ⟨rfl, hb2⟩
  have HB2 := hide (HB1.out.trans (hb2.mono HB1.out.size))
  have hr2 := (hb2.block _ hs1).trans hr1
  have hs2 : w.heap.size < w2.heap.size := Nat.lt_of_lt_of_le hs1 hb2.size
  clear hb2 hr1 hs1
  obtain ⟨w3, hw3⟩ : ∃ w3, w3 = w2.alloc (.cells (Et.cells ⟨k, f, t, n⟩) 23) := ⟨_, rfl⟩
  have HB3 := hide (show Below w.heap.size w w3 by rw [hw3]; exact HB2.out.alloc HB2.out.size _)
  have hr3 : w3.heap[w.heap.size]? = some (.cells zeroEt.cells 23 (0, 0)) := by rw [hw3]; exact (Below.heap_alloc _ _ _ hs2).trans hr2
  have hq3 : w3.heap[w2.heap.size]? = some (.cells (Et.cells ⟨k, f, t, n⟩) 23 (0, 0)) := by rw [hw3]; exact World.alloc_heap_new _ _
  have hs3 : w2.heap.size < w3.heap.size := by rw [hw3]; simp
  have k0 : w3.cell? ⟨w2.heap.size, 0, none⟩ = some (.int .i64 k) := cell_of_row _ _ _ _ _ _ hq3
  have k1 : w3.cell? ⟨w2.heap.size, 1, none⟩ = some (.string f) := cell_of_row _ _ _ _ _ _ hq3
  have k2 : w3.cell? ⟨w2.heap.size, 2, none⟩ = some (.string t) := cell_of_row _ _ _ _ _ _ hq3
  have k3 : w3.cell? ⟨w2.heap.size, 3, none⟩ = some (.int .i64 n) := cell_of_row _ _ _ _ _ _ hq3
  rw [hw3] at k0 k1 k2 k3
  simp only [Et.cells] at hw3 k0 k1 k2 k3
  go_wp2_with fail
  rw [← hw3]
  have j0 : w3.cell? ⟨w2.heap.size, 0, none⟩ = some (.int .i64 k) := cell_of_row _ _ _ _ _ _ hq3
  clear hw3 k0 k1 k2 k3 j0
  refine (HL3.out _ HB3.out).mono ?_
  rintro e w4 ⟨rfl, hb4⟩
  have HB4 := hide (HB3.out.trans (hb4.mono HB3.out.size))
  have hr4 := (hb4.block _ (by omega)).trans hr3
  have hq4 := (hb4.block _ hs3).trans hq3
  have m0 : w4.cell? ⟨w.heap.size, 0, none⟩ = some (.int .i64 0) := cell_of_row _ _ _ _ _ _ hr4
  have m1 : w4.cell? ⟨w.heap.size, 1, none⟩ = some (.string ⟨#[]⟩) := cell_of_row _ _ _ _ _ _ hr4
  have m2 : w4.cell? ⟨w.heap.size, 2, none⟩ = some (.string ⟨#[]⟩) := cell_of_row _ _ _ _ _ _ hr4
  have m3 : w4.cell? ⟨w.heap.size, 3, none⟩ = some (.int .i64 0) := cell_of_row _ _ _ _ _ _ hr4
  have y0 : w4.frozen? ⟨w.heap.size, 0, none⟩ = false := frozen_of_row _ _ _ _ _ hr4
  have y1 : w4.frozen? ⟨w.heap.size, 1, none⟩ = false := frozen_of_row _ _ _ _ _ hr4
  have y2 : w4.frozen? ⟨w.heap.size, 2, none⟩ = false := frozen_of_row _ _ _ _ _ hr4
  have y3 : w4.frozen? ⟨w.heap.size, 3, none⟩ = false := frozen_of_row _ _ _ _ _ hr4
  have k0 : w4.cell? ⟨w2.heap.size, 0, none⟩ = some (.int .i64 k) := cell_of_row _ _ _ _ _ _ hq4
  have k1 : w4.cell? ⟨w2.heap.size, 1, none⟩ = some (.string f) := cell_of_row _ _ _ _ _ _ hq4
  have k2 : w4.cell? ⟨w2.heap.size, 2, none⟩ = some (.string t) := cell_of_row _ _ _ _ _ _ hq4
  have k3 : w4.cell? ⟨w2.heap.size, 3, none⟩ = some (.int .i64 n) := cell_of_row _ _ _ _ _ _ hq4
  have HR0 := hide (four_put w4 w.heap.size _ _ _ _ (.int .i64 0) (.string ⟨#[]⟩) (.string ⟨#[]⟩) (.int .i64 0) _ hr4)
  have HR1 := hide (four_put w4 w.heap.size _ _ _ _ (.int .i64 k) (.string f) (.string t) (.int .i64 n) _ hr4)
  have HBN := hide (HB4.out.trans HR0.out.1)
  have HBY := hide (HB4.out.trans HR1.out.1)
  clear hb4 hr3 hq3 hr4 hq4 hs2 hs3 hr2
  cases he : LB.toList.isEmpty with
  | true =>
    rw [he] at ho
    obtain ⟨r1, r2⟩ := HF.out.2 ho
    have HE1 := hide r1
    have HE2 := hide r2
    clear r1 r2 ho
    go_wp2_with fail
    refine bodyPost_ret (results_row2 (P := Tryd.prog) rfl _ _ w.heap.size _ _ _ _ rfl HR0.out.2 Tryd.underlying23 rfl (by kernel_rfl)) rfl ⟨by rw [HE1.out, HE2.out]; rfl, HBN.out⟩
  | false =>
    cases hq : LB.toList == s.toList with
    | true =>
      have hq2 : (LB.toList != s.toList) = false := by rw [bne, hq]; rfl
      rw [he, hq] at ho
      obtain ⟨r1, r2⟩ := HF.out.1 ho
      have HE1 := hide r1
      have HE2 := hide r2
      clear r1 r2 ho
      go_wp2_with fail
      refine bodyPost_ret (results_row2 (P := Tryd.prog) rfl _ _ w.heap.size _ _ _ _ rfl HR1.out.2 Tryd.underlying23 rfl (by kernel_rfl)) rfl ⟨by rw [HE1.out, HE2.out]; rfl, HBY.out⟩
    | false =>
      have hq2 : (LB.toList != s.toList) = true := by rw [bne, hq]; rfl
      rw [he, hq] at ho
      obtain ⟨r1, r2⟩ := HF.out.2 ho
      have HE1 := hide r1
      have HE2 := hide r2
      clear r1 r2 ho
      go_wp2_with fail
      refine bodyPost_ret (results_row2 (P := Tryd.prog) rfl _ _ w.heap.size _ _ _ _ rfl HR0.out.2 Tryd.underlying23 rfl (by kernel_rfl)) rfl ⟨by rw [HE1.out, HE2.out]; rfl, HBN.out⟩
end Go.Proofs.YtlohoamhgioheaaDoor
