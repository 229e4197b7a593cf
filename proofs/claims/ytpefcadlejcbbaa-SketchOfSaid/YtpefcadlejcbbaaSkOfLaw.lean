/-
  The law SketchOf: its walk.
-/
import Derived.Test.YtpefcadlejcbbaaSkAwake
import Derived.Test.YtpefcadlejcbbaaSkPub
import Derived.Test.YtpefcadlejcbbaaSkRefSh
import Derived.Test.YtpefcadlejcbbaaChainP
import Derived.Deep.RegionHeld3
namespace Go.Proofs.Ytpefcadlejcbbaa
open Go.RowKit Go.Shelf
set_option maxRecDepth 100000
attribute [local go_sem] Oper.semAt_some

theorem func_nil (f : FuncId) (a : Addr) (w : World) : Sem.run Try.prog (binOp BinOp.eql 25 (.func (.func f) #[] #[.pointer (some a)]) .nilFunc) w = .ok (.bool false) w := by kernel_rfl
theorem RdW.grown {w w' : World} {B : Nat} {A : Option Addr} {l : List Nat} {row : Option Nat} (h : RdW w B A l) (hB : B ≤ w.heap.size) (hg : w.grownBy w' row) (hr : ∀ r, row = some r → B ≤ r) : RdW w' B A l := fun k x hx => by
  obtain ⟨ad, e, hlt, hc⟩ := h k x hx
  refine ⟨ad, e, hlt, ?_⟩
  rw [← hc]
  unfold World.cell?
  rw [hg.block _ (by rw [add_block]; omega) (fun e => ?_)]
  rw [add_block] at e
  have := hr _ e.symm
  omega

/-- The truth value in a cell. -/
def boolAt (a : Addr) (w : World) : Bool := match w.cell? a with | some (.bool b) => b | _ => false
theorem boolAt_of {a : Addr} {w : World} {b : Bool} (h : w.cell? a = some (.bool b)) : boolAt a w = b := by unfold boolAt; rw [h]
theorem cell_set {W : World} {b : Nat} {v u : Value} (h : (W.setCell ⟨b, 0, none⟩ v).cell? ⟨b, 0, none⟩ = some u) : (W.setCell ⟨b, 0, none⟩ v).cell? ⟨b, 0, none⟩ = some v := by
  cases hc : W.cell? ⟨b, 0, none⟩ with
  | some x => exact World.cell?_setCell_same (h := hc) ..
  | none =>
    exfalso
    simp only [World.setCell, World.cell?, Array.getElem?_modify, if_true] at h hc
    cases hh : W.heap[b]? with
    | none => rw [hh] at h; simp at h
    | some o =>
      rw [hh] at h hc
      cases o with
      | cells c e f =>
        simp at h hc
        subst hc
        simp at h
      | _ => simp at h
theorem keepF {w W W2 : World} {A B : Option Addr} {l : List UInt8} {c h m d c4 s D : Nat} {sl : ByteArray} (HC : ∀ W, Below w.heap.size w W → (convert 22 9 (.slice A l.length c)).run Try.prog W = .ok (.string sl) W) (hs : Below w.heap.size w W ∧ W.heap[D]? = some (.deferred (some [])) ∧ (convert 22 9 (.slice A l.length c)).run Try.prog W = .ok (.string sl) W ∧ W.cell? ⟨h + 1, 0, none⟩ = some (.int .i64 (m : Nat)) ∧ W.cell? ⟨h, 0, none⟩ = some (.slice B d c4) ∧ W.cell? ⟨w.heap.size, 0, none⟩ = some (.int .u8 (s : Nat)) ∧ W.cell? ⟨w.heap.size + 1, 0, none⟩ = some (.bool (boolAt ⟨w.heap.size + 1, 0, none⟩ W)) ∧ W.frozen? ⟨w.heap.size + 1, 0, none⟩ = false) (hb : Below W.heap.size W W2) : Below w.heap.size w W2 ∧ W2.heap[D]? = some (.deferred (some [])) ∧ (convert 22 9 (.slice A l.length c)).run Try.prog W2 = .ok (.string sl) W2 ∧ W2.cell? ⟨h + 1, 0, none⟩ = some (.int .i64 (m : Nat)) ∧ W2.cell? ⟨h, 0, none⟩ = some (.slice B d c4) ∧ W2.cell? ⟨w.heap.size, 0, none⟩ = some (.int .u8 (s : Nat)) ∧ W2.cell? ⟨w.heap.size + 1, 0, none⟩ = some (.bool (boolAt ⟨w.heap.size + 1, 0, none⟩ W2)) ∧ W2.frozen? ⟨w.heap.size + 1, 0, none⟩ = false := by
  obtain ⟨h1, h2, _, h4, h5, h6, h7, h8⟩ := hs
  have h9 := h1.trans (hb.mono h1.size)
  have e7 : W2.cell? ⟨w.heap.size + 1, 0, none⟩ = some (.bool (boolAt ⟨w.heap.size + 1, 0, none⟩ W)) := (hb.cell (cell_lt h7)).trans h7
  refine ⟨h9, (hb.block _ (Array.getElem?_eq_some_iff.1 h2).1).trans h2, HC _ h9, (hb.cell (cell_lt h4)).trans h4, (hb.cell (cell_lt h5)).trans h5, (hb.cell (cell_lt h6)).trans h6, by rw [boolAt_of e7]; exact e7, ?_⟩
  rw [← h8]
  have hl := cell_lt h7
  unfold World.frozen?
  rw [hb.block _ hl]
theorem keepS {w W : World} {A B : Option Addr} {l : List UInt8} {c h m d c4 s D : Nat} {sl : ByteArray} {b : Bool} (HC : ∀ W, Below w.heap.size w W → (convert 22 9 (.slice A l.length c)).run Try.prog W = .ok (.string sl) W) (hD : w.heap.size + 1 < D) (hh : w.heap.size + 1 < h) (hs : Below w.heap.size w W ∧ W.heap[D]? = some (.deferred (some [])) ∧ (convert 22 9 (.slice A l.length c)).run Try.prog W = .ok (.string sl) W ∧ W.cell? ⟨h + 1, 0, none⟩ = some (.int .i64 (m : Nat)) ∧ W.cell? ⟨h, 0, none⟩ = some (.slice B d c4) ∧ W.cell? ⟨w.heap.size, 0, none⟩ = some (.int .u8 (s : Nat)) ∧ W.cell? ⟨w.heap.size + 1, 0, none⟩ = some (.bool (boolAt ⟨w.heap.size + 1, 0, none⟩ W)) ∧ W.frozen? ⟨w.heap.size + 1, 0, none⟩ = false) : Below w.heap.size w (W.setCell ⟨w.heap.size + 1, 0, none⟩ (.bool b)) ∧ (W.setCell ⟨w.heap.size + 1, 0, none⟩ (.bool b)).heap[D]? = some (.deferred (some [])) ∧ (convert 22 9 (.slice A l.length c)).run Try.prog (W.setCell ⟨w.heap.size + 1, 0, none⟩ (.bool b)) = .ok (.string sl) (W.setCell ⟨w.heap.size + 1, 0, none⟩ (.bool b)) ∧ (W.setCell ⟨w.heap.size + 1, 0, none⟩ (.bool b)).cell? ⟨h + 1, 0, none⟩ = some (.int .i64 (m : Nat)) ∧ (W.setCell ⟨w.heap.size + 1, 0, none⟩ (.bool b)).cell? ⟨h, 0, none⟩ = some (.slice B d c4) ∧ (W.setCell ⟨w.heap.size + 1, 0, none⟩ (.bool b)).cell? ⟨w.heap.size, 0, none⟩ = some (.int .u8 (s : Nat)) ∧ (W.setCell ⟨w.heap.size + 1, 0, none⟩ (.bool b)).cell? ⟨w.heap.size + 1, 0, none⟩ = some (.bool (boolAt ⟨w.heap.size + 1, 0, none⟩ (W.setCell ⟨w.heap.size + 1, 0, none⟩ (.bool b)))) ∧ (W.setCell ⟨w.heap.size + 1, 0, none⟩ (.bool b)).frozen? ⟨w.heap.size + 1, 0, none⟩ = false := by
  obtain ⟨h1, h2, _, h4, h5, h6, h7, h8⟩ := hs
  have h9 : Below w.heap.size w (W.setCell ⟨w.heap.size + 1, 0, none⟩ (.bool b)) := h1.setCell (p := ⟨w.heap.size + 1, 0, none⟩) (by simp) _
  have e7 : (W.setCell ⟨w.heap.size + 1, 0, none⟩ (.bool b)).cell? ⟨w.heap.size + 1, 0, none⟩ = some (.bool b) := World.cell?_setCell_same (h := h7) ..
  have ne : ∀ k : Nat, k ≠ w.heap.size + 1 → (⟨w.heap.size + 1, 0, none⟩ : Addr) ≠ ⟨k, 0, none⟩ := fun k hk e => hk (by injection e with e; exact e.symm)
  refine ⟨h9, (heap_setCell_other _ _ _ _ (by simp; omega)).trans h2, HC _ h9, (World.cell?_setCell_other (h := ne _ (by omega)) ..).trans h4, (World.cell?_setCell_other (h := ne _ (by omega)) ..).trans h5, (World.cell?_setCell_other (h := ne _ (by omega)) ..).trans h6, by rw [boolAt_of e7]; exact e7, by simp [h8]⟩

set_option maxHeartbeats 8000000 in
theorem sketchOf_in (A : Option Addr) (l : List UInt8) (c s : Nat) (w : World) (hA : RdB w w.heap.size A l) (hc : Caps A l.length c) (h1 : l.length ≤ 120) (hs : s < 256) :
    CallsIn Fence.wide 5 Try.prog 3 #[.slice A l.length c, .int .u8 s] w fun e w' => e = .returned (.bool true) ∧ Below w.heap.size w w' := by
  have h120 : ¬ (120 : Int) < l.length := by omega
  have hll : (l.length : Int) ≤ 120 := by omega
  have hsi : (s : Int) < 256 := by omega
  refine callsIn_of_wp_marks Try.func3 rfl trivial ?_ rfl
  simp only [Try.ntmps3, List.size_toArray, List.length_cons, List.length_nil, Nat.reduceAdd, Nat.reduceSub, Array.replicate_succ, Array.replicate_zero, List.push_toArray, List.append_toArray, List.nil_append, List.cons_append]
  have r0 := chain_at [Obj.cells #[.int .u8 s] 5, .cells #[.bool false] 4] w 0 _ rfl
  have r1 := chain_at [Obj.cells #[.int .u8 s] 5, .cells #[.bool false] 4] w 1 _ rfl
  have hB := chain_below [Obj.cells #[.int .u8 s] 5, .cells #[.bool false] 4] w
  have hz := chain_size [Obj.cells #[.int .u8 s] 5, .cells #[.bool false] 4] w
  rw [Nat.add_zero] at r0
  simp only [List.foldl_cons, List.foldl_nil, List.length_cons, List.length_nil, Nat.reduceAdd] at r0 r1 hB hz
  gi_wp2_with fail
  generalize (w.alloc (.cells #[.int .u8 s] 5)).alloc (.cells #[.bool false] 4) = w1 at r0 r1 hB hz ⊢
  have hA1 := (hA.below hB (Nat.le_refl _)).mono hB.size
  refine ⟨trivial, (callsIn_wide.2 (shPub_any A l c w1 hA1 hc (by omega))).mono ?_⟩
  rintro e w3 ⟨A2, c2, w2, rfl, hc2, hR2, hB2, hw3⟩
  have q0 : w3.heap[w2.heap.size]? = some (.cells #[.slice A2 l.length c2] 22 (0, 0)) := by rw [hw3]; exact World.alloc_heap_new _ _
  have qB : Below w2.heap.size w2 w3 := by rw [hw3]; exact (Below.refl _ _).alloc (Nat.le_refl _) _
  have qz : w3.heap.size = w2.heap.size + 1 := by rw [hw3]; simp
  have hnil := fun W : World => func_nil 51 ⟨w2.heap.size, 0, none⟩ W
  have hz2 := hB2.size
  have s0 : w3.heap[w.heap.size]? = _ := (qB.block _ (by omega)).trans ((hB2.block _ (by omega)).trans r0)
  have s1 : w3.heap[w.heap.size + 1]? = _ := (qB.block _ (by omega)).trans ((hB2.block _ (by omega)).trans r1)
  have hB3 := hB.trans ((hB2.trans (qB.mono hB2.size)).mono hB.size)
  have hR3 := hR2.step qB
  have hA3 := (hA.below hB3 (Nat.le_refl _)).mono hB3.size
  clear hw3 qB hB2 hB r0 r1 hR2 hA1
  generalize w2.heap.size = g at q0 qz hnil hz2 ⊢
  have hcv := conv_any hA3 c
  have HSh := hide (refSh_any l w3 (by omega))
  obtain ⟨sl, hsl⟩ : ∃ sl, sl = ofL l := ⟨_, rfl⟩
  rw [← hsl] at hcv HSh
  have HSL := hide hsl
  clear hsl
  have HX := hide (And.intro q0 (And.intro s0 (And.intro s1 (And.intro hB3 hR3))))
  clear q0 s0 s1 hB3 hR3 hA3
  gi_wp2_with fail
  refine ⟨trivial, (callsIn_wide.2 HSh.out).mono ?_⟩
  rintro e w4 ⟨B, c4, rfl, hRW, hfr, hB4⟩
  clear hcv HSh hnil
  gi_wp2_with fail
  obtain ⟨q0, s0, s1, hB3, hR3⟩ := HX.out
  have p0 : w4.heap[g]? = _ := (hB4.block _ (by omega)).trans q0
  have p1 : w4.heap[w.heap.size]? = _ := (hB4.block _ (by omega)).trans s0
  have p2 : w4.heap[w.heap.size + 1]? = _ := (hB4.block _ (by omega)).trans s1
  have hR4 := hR3.step hB4
  have hz4 := hB4.size
  have hBw4 := hB3.trans (hB4.mono hB3.size)
  obtain ⟨h, hh⟩ : ∃ h, h = w4.heap.size := ⟨_, rfl⟩
  have m6 : ((w4.alloc (.cells #[.slice B (shL l).length c4] 27)).alloc (.cells #[.int .i64 0] 3)).heap[h]? = some (.cells #[.slice B (shL l).length c4] 27 (0, 0)) := by
    rw [Below.heap_alloc _ _ _ (by simp; omega), hh]
    exact World.alloc_heap_new _ _
  have m7 : ((w4.alloc (.cells #[.slice B (shL l).length c4] 27)).alloc (.cells #[.int .i64 0] 3)).heap[h + 1]? = some (.cells #[.int .i64 0] 3 (0, 0)) := by
    have hx := World.alloc_heap_new (w4.alloc (.cells #[.slice B (shL l).length c4] 27)) (Obj.cells #[.int .i64 0] 3)
    simp only [World.size_alloc, ← hh] at hx
    exact hx
  have mB : Below w4.heap.size w4 ((w4.alloc (.cells #[.slice B (shL l).length c4] 27)).alloc (.cells #[.int .i64 0] 3)) := ((Below.refl _ w4).alloc (Nat.le_refl _) _).alloc (by simp) _
  have mz : ((w4.alloc (.cells #[.slice B (shL l).length c4] 27)).alloc (.cells #[.int .i64 0] 3)).heap.size = h + 2 := by simp [hh]
  generalize (w4.alloc (.cells #[.slice B (shL l).length c4] 27)).alloc (.cells #[.int .i64 0] 3) = w5 at m6 m7 mB mz ⊢
  have t0 : w5.heap[w.heap.size]? = _ := (mB.block _ (by omega)).trans p1
  have t1 : w5.heap[w.heap.size + 1]? = _ := (mB.block _ (by omega)).trans p2
  have u0 : w5.heap[g]? = _ := (mB.block _ (by omega)).trans p0
  have hR5 := hR4.step mB
  have hRW5 := hRW.below mB (Nat.le_refl _)
  have hB5 := hBw4.trans (mB.mono hBw4.size)
  have hblk := blkR_lt hR4
  have hgh : g < h := by omega
  have hwg : w.heap.size + 2 ≤ g := by omega
  rw [← hh] at hRW5 hblk ⊢
  have hc1 := hc.1
  clear q0 s0 s1 hB3 hR3 p0 p1 p2 hR4 hz4 hBw4 mB hRW hfr hB4 HX hh qz hz2 hz
  have HC := hide (fun (W : World) (hb : Below w.heap.size w W) => (show (convert 22 9 (.slice A l.length c)).run Try.prog W = .ok (.string sl) W from by rw [HSL.out]; exact conv_any ((hA.below hb (Nat.le_refl _)).mono hb.size) c))
  obtain ⟨k0, k1, k2, k3, k4, k5, k6, k7, hk8⟩ := len8 (sketchL (shL l)) (sketchL_len _)
  have HO := hide (fun (W : World) (hb : Below w.heap.size w W) => (show Calls Try.prog 11 #[.slice A l.length c] W fun e w' => e = .returned (.agg #[.int .u64 (k0 : Nat), .int .u64 (k1 : Nat), .int .u64 (k2 : Nat), .int .u64 (k3 : Nat), .int .u64 (k4 : Nat), .int .u64 (k5 : Nat), .int .u64 (k6 : Nat), .int .u64 (k7 : Nat)]) ∧ Below W.heap.size W w' from by
    have ho := of_any A l c W ((hA.below hb (Nat.le_refl _)).mono hb.size) hc1 (by omega)
    rw [hk8] at ho
    exact ho))
  have HRO := hide (fun (W : World) => (show Calls Try.prog 12 #[.string sl] W fun e w' => e = .returned (.agg #[.int .u64 (k0 : Nat), .int .u64 (k1 : Nat), .int .u64 (k2 : Nat), .int .u64 (k3 : Nat), .int .u64 (k4 : Nat), .int .u64 (k5 : Nat), .int .u64 (k6 : Nat), .int .u64 (k7 : Nat)]) ∧ Below W.heap.size W w' from by
    rw [HSL.out]
    have ho := refSketch_any (shL l) l W (shL_all l) (by have := shL_le l; omega) (fun W1 => refSh_any l W1 (by omega))
    rw [hk8] at ho
    exact ho))
  have HE := hide (fun W : World => (show (binOp .eql 30 (.agg #[.int .u64 (k0 : Nat), .int .u64 (k1 : Nat), .int .u64 (k2 : Nat), .int .u64 (k3 : Nat), .int .u64 (k4 : Nat), .int .u64 (k5 : Nat), .int .u64 (k6 : Nat), .int .u64 (k7 : Nat)]) (.agg #[.int .u64 (k0 : Nat), .int .u64 (k1 : Nat), .int .u64 (k2 : Nat), .int .u64 (k3 : Nat), .int .u64 (k4 : Nat), .int .u64 (k5 : Nat), .int .u64 (k6 : Nat), .int .u64 (k7 : Nat)])).run Try.prog W = .ok (.bool true) W from by
    have h8 := arr8_eq k0 k1 k2 k3 k4 k5 k6 k7 k0 k1 k2 k3 k4 k5 k6 k7 W
    simp only [beq_self_eq_true, Bool.and_self] at h8
    have h9 : ∀ a b : Value, (Op.equalIn Op.maxDepth 30 a b) = Op.equalIn 10000 30 a b := fun a b => rfl
    simp only [binOp, Op.equal, Sem.run_bind, h9, h8, Result.andThen_ok]
    rfl))
  obtain ⟨d, hd⟩ : ∃ d, d = (shL l).length := ⟨_, rfl⟩
  have hdle : d ≤ 120 := by rw [hd]; have := shL_le l; omega
  rw [← hd] at m6 ⊢
  have HD := hide hd
  clear hd hk8
  refine wpIn_rangeK (α := Nat) rfl (by omega) (gf := 51) (lb := #[.pointer (some ⟨g, 0, none⟩)]) rfl trivial
    (enters_of Try.func51 (by kernel_rfl) rfl) (L := []) (K := g :: blkR A2 l) (by intro j hj; simp at hj)
    (by
      intro j hj
      rcases List.mem_cons.1 hj with rfl | hj
      · omega
      · have := hblk j hj; omega)
    (shingles_seq 4 g A2 l c2 w5 hR5 hc2 (by omega) (by omega) u0) (fun _ => rfl)
    (fun X pre W => W.heap[w.heap.size]? = some (.cells #[.int .u8 s] 5 (0, 0)) ∧ W.heap[w.heap.size + 1]? = some (.cells #[.bool false] 4 (0, 0)) ∧ W.heap[h]? = some (.cells #[.slice B d c4] 27 (0, 0)) ∧
      W.heap[h + 1]? = some (.cells #[.int .i64 (pre.length : Nat)] 3 (0, 0)) ∧ RdW W h B (shL l) ∧ Below w.heap.size w W ∧ pre.length ≤ s)
    (fun X cd pre W => cd = .exit 0 ∧ s < d ∧ W.heap[w.heap.size]? = some (.cells #[.int .u8 s] 5 (0, 0)) ∧ W.heap[w.heap.size + 1]? = some (.cells #[.bool false] 4 (0, 0)) ∧ W.heap[h]? = some (.cells #[.slice B d c4] 27 (0, 0)) ∧
      W.heap[h + 1]? = some (.cells #[.int .i64 s] 3 (0, 0)) ∧ Below w.heap.size w W)
    ?hI ?hIx (fun X hX => ⟨t0, t1, m6, m7, hRW5, hB5, Nat.zero_le _⟩)
    (fun x => { tmps := #[.slice A l.length c, .int .u8 s, undef, .pointer (some ⟨w.heap.size, 0, none⟩), .pointer (some ⟨w.heap.size + 1, 0, none⟩), .func (.func 51) #[] #[.pointer (some ⟨g, 0, none⟩)], .pointer (some ⟨h, 0, none⟩), .pointer (some ⟨h + 1, 0, none⟩), .int .u64 (x : Nat), .slice A l.length c, .int .i64 l.length, .bool false, undef, .slice A l.length c, .func (.func 51) #[] #[.pointer (some ⟨g, 0, none⟩)], .func (.func 51) #[] #[.pointer (some ⟨g, 0, none⟩)], .bool false, .slice A l.length c, .string sl, .slice B d c4, .func (.func 51) #[] #[.pointer (some ⟨g, 0, none⟩)], .int .u64 (x : Nat), undef, undef, undef, undef, undef, undef, undef, undef, undef, undef, undef, undef, undef, undef, undef, undef, undef, undef, undef, undef, undef, undef, undef, undef, undef, undef, undef, undef, undef, undef, undef, undef, undef, undef, undef, undef], defers := [] }) ?assign ?body ?done ?stop
  case hI =>
    rintro X hX pre A3 B3 row ⟨h1, h2, h3, h4, h5, h6, h7⟩ hgr hr
    have ne : ∀ j, row = some j → w5.heap.size ≤ j := fun j e => by
      rcases hr j e with h | h
      · simp at h
      · exact h.1
    refine ⟨(hgr.block _ (Array.getElem?_eq_some_iff.1 h1).1 (fun e => ?_)).trans h1, (hgr.block _ (Array.getElem?_eq_some_iff.1 h2).1 (fun e => ?_)).trans h2, (hgr.block _ (Array.getElem?_eq_some_iff.1 h3).1 (fun e => ?_)).trans h3, (hgr.block _ (Array.getElem?_eq_some_iff.1 h4).1 (fun e => ?_)).trans h4, h5.grown (Nat.le_of_lt (Array.getElem?_eq_some_iff.1 h3).1) hgr (fun r e => ?_), h6.grown hgr h6.size (fun r e => ?_), h7⟩
    all_goals
      first
        | (have := ne _ e.symm; omega)
        | (have := ne _ e; omega)
  case hIx =>
    rintro X cd hX pre A3 B3 row ⟨h0, hsd, h1, h2, h3, h4, h6⟩ hgr hr
    have ne : ∀ j, row = some j → w5.heap.size ≤ j := fun j e => by
      rcases hr j e with h | h
      · simp at h
      · exact h.1
    refine ⟨h0, hsd, (hgr.block _ (Array.getElem?_eq_some_iff.1 h1).1 (fun e => ?_)).trans h1, (hgr.block _ (Array.getElem?_eq_some_iff.1 h2).1 (fun e => ?_)).trans h2, (hgr.block _ (Array.getElem?_eq_some_iff.1 h3).1 (fun e => ?_)).trans h3, (hgr.block _ (Array.getElem?_eq_some_iff.1 h4).1 (fun e => ?_)).trans h4, h6.grown hgr h6.size (fun r e => ?_)⟩
    all_goals
      first
        | (have := ne _ e.symm; omega)
        | (have := ne _ e; omega)
  case assign =>
    intro lp x W KK hK
    gi_wp2
    exact hK
  case body =>
    rintro X lp pre x W hX hXW ⟨h1, h2, h3, h4, h5, h6, h7⟩ hpre
    have hlt : pre.length < d := by
      have hx := hpre.length_le
      rw [← HD.out] at hx
      simp at hx
      omega
    have hx : (shL l)[pre.length]? = some x := by
      obtain ⟨r, hr⟩ := hpre
      rw [← hr]; simp
    have c0 : W.cell? ⟨w.heap.size, 0, none⟩ = some (.int .u8 s) := cell_of_row _ _ _ _ _ _ h1
    have c6 : W.cell? ⟨h, 0, none⟩ = some (.slice B d c4) := cell_of_row _ _ _ _ _ _ h3
    have c7 : W.cell? ⟨h + 1, 0, none⟩ = some (.int .i64 (pre.length : Nat)) := cell_of_row _ _ _ _ _ _ h4
    have z7 : W.frozen? ⟨h + 1, 0, none⟩ = false := frozen_of_row _ _ _ _ _ h4
    obtain ⟨ad, rfl, _, cx⟩ := h5 _ _ hx
    have hlE : (((pre ++ [x]).length : Nat) : Int) = ((pre.length : Nat) : Int) + 1 := by simp
    have HLE := hide hlE
    have HLN := hide (show (pre ++ [x]).length = pre.length + 1 by simp)
    have hnd : (pre.length : Int) < (d : Int) := by omega
    have hpi : (pre.length : Int) ≤ 255 := by omega
    have HX := hide (And.intro h1 (And.intro h2 (And.intro h3 (And.intro h4 (And.intro h5 h6)))))
    by_cases hps : pre.length = s
    · have E : ((pre.length : Int) == (s : Int)) = true := by rw [hps]; simp
      have HPS := hide (And.intro hps hlt)
      clear hps h1 h2 h3 h4 h5 h6 h7 hpre hlt hx hlE
      gi_wp2_with fail
      refine ⟨Lies.refl _ _, rfl, by have := HPS.out; omega, HX.out.1, HX.out.2.1, HX.out.2.2.1, ?_, HX.out.2.2.2.2.2⟩
      rw [HX.out.2.2.2.1, HPS.out.1]
    · have E : ((pre.length : Int) == (s : Int)) = false := by rw [beq_eq_false_iff_ne]; omega
      have HP := hide (show pre.length + 1 ≤ s by omega)
      clear hps h1 h2 h3 h4 h5 h6 h7 hpre hx hlE
      gi_wp2_with fail
      obtain ⟨h1, h2, h3, h4, h5, h6⟩ := HX.out
      have eL := HLE.out
      refine ⟨.grown (grownBy_setCell W ⟨h + 1, 0, none⟩ (.int .i64 ((pre.length : Int) + 1))) (fun j hj => ?_) (fun r e hj => ?_), (heap_setCell_other _ _ _ _ (by simp; omega)).trans h1, (heap_setCell_other _ _ _ _ (by simp; omega)).trans h2, (heap_setCell_other _ _ _ _ (by simp)).trans h3, ?_, h5.grown (Nat.le_of_lt (Array.getElem?_eq_some_iff.1 h3).1) (grownBy_setCell W ⟨h + 1, 0, none⟩ _) (fun r e => by cases e; simp), h6.setCell (p := ⟨h + 1, 0, none⟩) (by simp; omega) _, by rw [HLN.out]; exact HP.out⟩
      · rcases hj with (hj | hj) | hj
        · simp at hj
        · omega
        · rcases List.mem_cons.1 hj with rfl | hj
          · omega
          · have := hblk j hj; omega
      · cases e
        rcases hj with (hj | hj) | hj
        · simp at hj
        · have h9 : w5.heap.size ≤ h + 1 := hj.1
          omega
        · rcases List.mem_cons.1 hj with hj | hj
          · simp at hj; omega
          · have h9 : h + 1 < h := hblk _ hj
            omega
      · rw [eL]
        exact heap_setCell_same _ _ _ _ _ _ h4
  case done =>
    rintro X D xs W hX hD hDX hS ⟨h1, h2, h3, h4, h5, h6, h7⟩ hK
    have hxl : xs.length = d := by rw [hS, HD.out]
    rw [hxl] at h4 h7
    obtain ⟨m, hm⟩ : ∃ m, m = d := ⟨_, rfl⟩
    rw [← hm] at h4
    have hm1 : m ≤ s := by omega
    clear hS h5 hxl h7
    have hDw : w.heap.size + 1 < D := by
      rw [mz] at hD
      omega
    have hhw : w.heap.size + 1 < h := by omega
    have hb1 := h6
    have c4' : W.cell? ⟨w.heap.size + 1, 0, none⟩ = some (.bool false) := cell_of_row _ _ _ _ _ _ h2
    have HdS : Below w.heap.size w W.drew ∧ W.drew.heap[D]? = some (.deferred (some [])) ∧ (convert 22 9 (.slice A l.length c)).run Try.prog W.drew = .ok (.string sl) W.drew ∧ W.drew.cell? ⟨h + 1, 0, none⟩ = some (.int .i64 (m : Nat)) ∧ W.drew.cell? ⟨h, 0, none⟩ = some (.slice B d c4) ∧ W.drew.cell? ⟨w.heap.size, 0, none⟩ = some (.int .u8 (s : Nat)) ∧ W.drew.cell? ⟨w.heap.size + 1, 0, none⟩ = some (.bool (boolAt ⟨w.heap.size + 1, 0, none⟩ W.drew)) ∧ W.drew.frozen? ⟨w.heap.size + 1, 0, none⟩ = false := by
      have hb : Below w.heap.size w W.drew := ⟨hb1.os, hb1.tape, hb1.output, hb1.size, hb1.block⟩
      have e4 : W.drew.cell? ⟨w.heap.size + 1, 0, none⟩ = some (.bool false) := c4'
      refine ⟨hb, hK, HC.out _ hb, cell_of_row _ _ _ _ _ _ h4, cell_of_row _ _ _ _ _ _ h3, cell_of_row _ _ _ _ _ _ h1, by rw [boolAt_of e4]; exact e4, frozen_of_row _ _ _ _ _ h2⟩
    have hdx := HdS
    have hmi : (if s < d then (s : Int) else (d : Int)) = (m : Int) := by split <;> omega
    have hsw : IntKind.i64.wrap (s : Int) = (s : Int) := IntWalk.i64_in _ (by omega)
    have hEq := HE.out
    clear hm hm1
    clear h1 h2 h3 h4 h6 hK hb1 c4' HdS
    gi_wp2_with fail
    refine wpIn_wide.2 ?_
    refine wp_region_noPanic ?_
    go_region_held (fun w' => Below w.heap.size w w' ∧ w'.heap[D]? = some (.deferred (some [])) ∧ (convert 22 9 (.slice A l.length c)).run Try.prog w' = .ok (.string sl) w' ∧ w'.cell? ⟨h + 1, 0, none⟩ = some (.int .i64 (m : Nat)) ∧ w'.cell? ⟨h, 0, none⟩ = some (.slice B d c4) ∧ w'.cell? ⟨w.heap.size, 0, none⟩ = some (.int .u8 (s : Nat)) ∧ w'.cell? ⟨w.heap.size + 1, 0, none⟩ = some (.bool (boolAt ⟨w.heap.size + 1, 0, none⟩ w')) ∧ w'.frozen? ⟨w.heap.size + 1, 0, none⟩ = false)
      (first
        | assumption
        | exact hdx
        | exact keepF HC.out (by assumption) hbk
        | exact keepS HC.out hDw hhw (by assumption))
      (first
        | (go_at_call 8; refine (skAwake_any _).mono ?_; rintro e wk ⟨rfl, hbk⟩)
        | (go_at_call 11; with_reducible refine (HO.out _ (And.left (by assumption))).mono ?_; rintro e wk ⟨rfl, hbk⟩)
        | (go_at_call 12; with_reducible refine (HRO.out _).mono ?_; rintro e wk ⟨rfl, hbk⟩))
    all_goals
      rename_i hH2
      refine NoPanic.normal ?_
      have HF := hide hH2
      clear hH2
      gi_wp2_with fail
      obtain ⟨f1, f2, _, _, _, _, f7, _⟩ := HF.out
      have y0 := cell_set f7
      generalize wk.setCell ⟨w.heap.size + 1, 0, none⟩ (.bool true) = W9 at f1 f2 y0 ⊢
      refine ⟨by simp, .inl ⟨_, _, rfl, run_takeDeferred f2, ?_⟩⟩
      have y : (W9.putObj D (.deferred none)).cell? ⟨w.heap.size + 1, 0, none⟩ = some (.bool true) := by
        unfold World.cell? at y0 ⊢
        rw [World.putObj_heap_other (by simp only; omega)]
        exact y0
      refine ⟨.bool true, by simp [results, Try.results3, go_sem, y], rfl, ?_⟩
      exact f1.grown (grownBy_putObj' _ D (.deferred none)) f1.size (fun r e => by cases e; omega)
  case stop =>
    rintro X D cd pre W hX hD hDX hS ⟨rfl, hsd, h1, h2, h3, h4, h6⟩ hK
    obtain ⟨m, hm⟩ : ∃ m, m = s := ⟨_, rfl⟩
    rw [← hm] at h4
    clear hS
    have hDw : w.heap.size + 1 < D := by
      rw [mz] at hD
      omega
    have hhw : w.heap.size + 1 < h := by omega
    have hb1 := h6
    have c4' : W.cell? ⟨w.heap.size + 1, 0, none⟩ = some (.bool false) := cell_of_row _ _ _ _ _ _ h2
    have HdS : Below w.heap.size w W.drew ∧ W.drew.heap[D]? = some (.deferred (some [])) ∧ (convert 22 9 (.slice A l.length c)).run Try.prog W.drew = .ok (.string sl) W.drew ∧ W.drew.cell? ⟨h + 1, 0, none⟩ = some (.int .i64 (m : Nat)) ∧ W.drew.cell? ⟨h, 0, none⟩ = some (.slice B d c4) ∧ W.drew.cell? ⟨w.heap.size, 0, none⟩ = some (.int .u8 (s : Nat)) ∧ W.drew.cell? ⟨w.heap.size + 1, 0, none⟩ = some (.bool (boolAt ⟨w.heap.size + 1, 0, none⟩ W.drew)) ∧ W.drew.frozen? ⟨w.heap.size + 1, 0, none⟩ = false := by
      have hb : Below w.heap.size w W.drew := ⟨hb1.os, hb1.tape, hb1.output, hb1.size, hb1.block⟩
      have e4 : W.drew.cell? ⟨w.heap.size + 1, 0, none⟩ = some (.bool false) := c4'
      refine ⟨hb, hK, HC.out _ hb, cell_of_row _ _ _ _ _ _ h4, cell_of_row _ _ _ _ _ _ h3, cell_of_row _ _ _ _ _ _ h1, by rw [boolAt_of e4]; exact e4, frozen_of_row _ _ _ _ _ h2⟩
    have hdx := HdS
    have hmi : (if s < d then (s : Int) else (d : Int)) = (m : Int) := by split <;> omega
    have hsw : IntKind.i64.wrap (s : Int) = (s : Int) := IntWalk.i64_in _ (by omega)
    have hEq := HE.out
    clear hm hsd
    clear h1 h2 h3 h4 h6 hK hb1 c4' HdS
    gi_wp2_with fail
    refine wpIn_wide.2 ?_
    refine wp_region_noPanic ?_
    go_region_held (fun w' => Below w.heap.size w w' ∧ w'.heap[D]? = some (.deferred (some [])) ∧ (convert 22 9 (.slice A l.length c)).run Try.prog w' = .ok (.string sl) w' ∧ w'.cell? ⟨h + 1, 0, none⟩ = some (.int .i64 (m : Nat)) ∧ w'.cell? ⟨h, 0, none⟩ = some (.slice B d c4) ∧ w'.cell? ⟨w.heap.size, 0, none⟩ = some (.int .u8 (s : Nat)) ∧ w'.cell? ⟨w.heap.size + 1, 0, none⟩ = some (.bool (boolAt ⟨w.heap.size + 1, 0, none⟩ w')) ∧ w'.frozen? ⟨w.heap.size + 1, 0, none⟩ = false)
      (first
        | assumption
        | exact hdx
        | exact keepF HC.out (by assumption) hbk
        | exact keepS HC.out hDw hhw (by assumption))
      (first
        | (go_at_call 8; refine (skAwake_any _).mono ?_; rintro e wk ⟨rfl, hbk⟩)
        | (go_at_call 11; with_reducible refine (HO.out _ (And.left (by assumption))).mono ?_; rintro e wk ⟨rfl, hbk⟩)
        | (go_at_call 12; with_reducible refine (HRO.out _).mono ?_; rintro e wk ⟨rfl, hbk⟩))
    all_goals
      rename_i hH2
      refine NoPanic.normal ?_
      have HF := hide hH2
      clear hH2
      gi_wp2_with fail
      obtain ⟨f1, f2, _, _, _, _, f7, _⟩ := HF.out
      have y0 := cell_set f7
      generalize wk.setCell ⟨w.heap.size + 1, 0, none⟩ (.bool true) = W9 at f1 f2 y0 ⊢
      refine ⟨by simp, .inl ⟨_, _, rfl, run_takeDeferred f2, ?_⟩⟩
      have y : (W9.putObj D (.deferred none)).cell? ⟨w.heap.size + 1, 0, none⟩ = some (.bool true) := by
        unfold World.cell? at y0 ⊢
        rw [World.putObj_heap_other (by simp only; omega)]
        exact y0
      refine ⟨.bool true, by simp [results, Try.results3, go_sem, y], rfl, ?_⟩
      exact f1.grown (grownBy_putObj' _ D (.deferred none)) f1.size (fun r e => by cases e; omega)

set_option maxHeartbeats 2000000 in
theorem sketchOf_law (A : Option Addr) (l : List UInt8) (c s : Nat) (w : World) (hA : RdB w w.heap.size A l) (hc : Caps A l.length c) (hs : s < 256) :
    Calls Try.prog 3 #[.slice A l.length c, .int .u8 s] w fun e w' => e = .returned (.bool true) ∧ Below w.heap.size w w' := by
  by_cases h1 : l.length ≤ 120
  · exact callsIn_wide.1 (sketchOf_in A l c s w hA hc h1 hs)
  have h120 : (120 : Int) < l.length := by omega
  have r1 := chain_at [Obj.cells #[.int .u8 s] 5, .cells #[.bool false] 4] w 1 _ rfl
  have hB := chain_below [Obj.cells #[.int .u8 s] 5, .cells #[.bool false] 4] w
  simp only [List.foldl_cons, List.foldl_nil] at r1 hB
  clear hA hc h1 hs
  go_enter Try.func3, Try.ntmps3
  go_wp2_with fail
  generalize (w.alloc (.cells #[.int .u8 s] 5)).alloc (.cells #[.bool false] 4) = w1 at r1 hB ⊢
  refine (skAwake_any _).mono ?_
  rintro e w9 ⟨rfl, hB9⟩
  have k1 := (hB9.block _ (Array.getElem?_eq_some_iff.1 r1).1).trans r1
  have c1 : w9.cell? ⟨w.heap.size + 1, 0, none⟩ = some (.bool false) := cell_of_row _ _ _ _ _ _ k1
  have z1 : w9.frozen? ⟨w.heap.size + 1, 0, none⟩ = false := frozen_of_row _ _ _ _ _ k1
  have HF := hide (And.intro (heap_setCell_same w9 (w.heap.size + 1) 0 _ _ (.bool true) k1) ((hB.trans (hB9.mono hB.size)).setCell (p := ⟨w.heap.size + 1, 0, none⟩) (by simp) (.bool true)))
  clear r1 hB hB9 k1
  go_wp2_with fail
  exact bodyPost_ret (v := .bool true) (by simp [results, Try.results3, go_sem, c1]) rfl ⟨rfl, HF.out.2⟩
end Go.Proofs.Ytpefcadlejcbbaa
