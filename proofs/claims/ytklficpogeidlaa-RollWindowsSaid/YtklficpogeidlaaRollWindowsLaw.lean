/-
  RollWindows's law.
-/
import Derived.Test.YtklficpogeidlaaRollPub
import Derived.Test.YtklficpogeidlaaChain
namespace Go.Proofs.Ytklficpogeidlaa
open Go.RowKit Go.Shelf
set_option maxRecDepth 100000
attribute [local go_sem] Oper.semAt_some

theorem func_nil (f : FuncId) (a b : Addr) (w : World) : Sem.run Try.prog (binOp BinOp.eql 62 (.func (.func f) #[] #[.pointer (some a), .pointer (some b)]) .nilFunc) w = .ok (.bool false) w := by kernel_rfl

theorem slice_mid (w : World) (ad : Addr) (L c j m : Nat) (h1 : j ≤ m) (h2 : m ≤ c) (h3 : j < c) :
    (Instr.slice 22 (.slice (some ad) L c) (some (.int .i64 j)) (some (.int .i64 m)) none).run Try.prog w = .ok (.slice (some (ad.add j)) (m - j) (c - j)) w := by
  have hc : ¬ c = j := by omega
  have a1 : (j : Int) ≤ m := by omega
  have a2 : (m : Int) ≤ c := by omega
  simp [Instr.slice, Instr.sliceBounds, Instr.sliceBound, asIntOf, run_underlying Try.underlying22, go_sem, hc, h1, h2]
theorem rsub {w : World} {B : Nat} {ad : Addr} {l : List UInt8} (h : RdB w B (some ad) l) (n j : Nat) : RdB w B (some (ad.add j)) (winAt l n j) := fun i x hx => by
  unfold winAt at hx
  rw [List.getElem?_take] at hx
  split at hx
  · rw [List.getElem?_drop] at hx
    obtain ⟨ad', e, hb, hc⟩ := h (j + i) x hx
    cases e
    refine ⟨_, rfl, by rw [add_block]; exact hb, ?_⟩
    have e : (ad.add j).add i = ad.add (j + i) := by
      unfold Addr.add
      by_cases hi : j = 0 <;> by_cases hj : i = 0 <;> simp [hi, hj, Nat.add_assoc]
    rw [e]; exact hc
  · cases hx

set_option maxHeartbeats 8000000 in
theorem rollWindows_some (ad : Addr) (l : List UInt8) (c n s : Nat) (w : World) (hA : RdB w w.heap.size (some ad) l) (hc : Caps (some ad) l.length c) (h1 : l.length ≤ 200) (n1 : 1 ≤ n) (n2 : n ≤ l.length) (hs : s < 256) (hsd : s < l.length - n + 1) :
    CallsIn Fence.wide 5 Try.prog 6 #[.slice (some ad) l.length c, .int .i64 n, .int .u8 s] w fun e w' => e = .returned (.bool true) ∧ Below w.heap.size w w' := by
  have h200 : ¬ (200 : Int) < l.length := by omega
  have n1i : (1 : Int) ≤ n := by omega
  have n2i : (n : Int) ≤ l.length := by omega
  have hll : (l.length : Int) ≤ 200 := by omega
  have hsi : (s : Int) < 256 := by omega
  refine callsIn_of_wp_marks Try.func6 rfl trivial ?_ rfl
  simp only [Try.ntmps6, List.size_toArray, List.length_cons, List.length_nil, Nat.reduceAdd, Nat.reduceSub, Array.replicate_succ, Array.replicate_zero, List.push_toArray, List.append_toArray, List.nil_append, List.cons_append]
  have r0 := chain_at [Obj.cells #[.slice (some ad) l.length c] 22, .cells #[.int .i64 n] 3, .cells #[.bool false] 4] w 0 _ rfl
  have r1 := chain_at [Obj.cells #[.slice (some ad) l.length c] 22, .cells #[.int .i64 n] 3, .cells #[.bool false] 4] w 1 _ rfl
  have r2 := chain_at [Obj.cells #[.slice (some ad) l.length c] 22, .cells #[.int .i64 n] 3, .cells #[.bool false] 4] w 2 _ rfl
  have hB := chain_below [Obj.cells #[.slice (some ad) l.length c] 22, .cells #[.int .i64 n] 3, .cells #[.bool false] 4] w
  have hz := chain_size [Obj.cells #[.slice (some ad) l.length c] 22, .cells #[.int .i64 n] 3, .cells #[.bool false] 4] w
  rw [Nat.add_zero] at r0
  simp only [List.foldl_cons, List.foldl_nil, List.length_cons, List.length_nil, Nat.reduceAdd] at r0 r1 r2 hB hz
  gi_wp2_with fail
  generalize ((w.alloc (.cells #[.slice (some ad) l.length c] 22)).alloc (.cells #[.int .i64 n] 3)).alloc (.cells #[.bool false] 4) = w1 at r0 r1 r2 hB hz ⊢
  have hA1 := (hA.below hB (Nat.le_refl _)).mono hB.size
  refine ⟨trivial, (callsIn_wide.2 (winsPub_any (some ad) l c n w1 hA1 hc (by omega))).mono ?_⟩
  rintro e w3 ⟨A2, c2, w2, rfl, hc2, hR2, hB2, hw3⟩
  have q0 := chain_at [Obj.cells #[.slice A2 l.length c2] 22, .cells #[.int .i64 n] 3] w2 0 _ rfl
  have q1 := chain_at [Obj.cells #[.slice A2 l.length c2] 22, .cells #[.int .i64 n] 3] w2 1 _ rfl
  have qB := chain_below [Obj.cells #[.slice A2 l.length c2] 22, .cells #[.int .i64 n] 3] w2
  have qz := chain_size [Obj.cells #[.slice A2 l.length c2] 22, .cells #[.int .i64 n] 3] w2
  rw [Nat.add_zero] at q0
  simp only [List.foldl_cons, List.foldl_nil, List.length_cons, List.length_nil, Nat.reduceAdd] at q0 q1 qB qz
  rw [← hw3] at q0 q1 qB qz
  have hnil := fun W : World => func_nil 55 ⟨w2.heap.size + 1, 0, none⟩ ⟨w2.heap.size, 0, none⟩ W
  have hz2 := hB2.size
  have s0 : w3.heap[w.heap.size]? = _ := (qB.block _ (by omega)).trans ((hB2.block _ (by omega)).trans r0)
  have s1 : w3.heap[w.heap.size + 1]? = _ := (qB.block _ (by omega)).trans ((hB2.block _ (by omega)).trans r1)
  have s2 : w3.heap[w.heap.size + 2]? = _ := (qB.block _ (by omega)).trans ((hB2.block _ (by omega)).trans r2)
  have hB3 := hB.trans ((hB2.trans (qB.mono hB2.size)).mono hB.size)
  have hR3 := hR2.step qB
  clear hw3 qB hB2 hB r0 r1 r2 hR2 hA1
  generalize w2.heap.size = g at q0 q1 qz hnil hz2 ⊢
  have c0 : w3.cell? ⟨w.heap.size, 0, none⟩ = some (.slice (some ad) l.length c) := cell_of_row _ _ _ _ _ _ s0
  have c1 : w3.cell? ⟨w.heap.size + 1, 0, none⟩ = some (.int .i64 n) := cell_of_row _ _ _ _ _ _ s1
  have c0a : ∀ o : Obj, (w3.alloc o).cell? ⟨w.heap.size, 0, none⟩ = some (.slice (some ad) l.length c) := fun o => cell_of_row _ _ _ _ _ _ ((Below.heap_alloc _ _ _ (by omega)).trans s0)
  have c1a : ∀ o : Obj, (w3.alloc o).cell? ⟨w.heap.size + 1, 0, none⟩ = some (.int .i64 n) := fun o => cell_of_row _ _ _ _ _ _ ((Below.heap_alloc _ _ _ (by omega)).trans s1)
  obtain ⟨d, hd⟩ : ∃ d, d = l.length - n + 1 := ⟨_, rfl⟩
  have hdi : (l.length : Int) - (n : Int) + 1 = (d : Int) := by omega
  have hdw : IntKind.i64.wrap (d : Int) = (d : Int) := IntWalk.i64_in _ (by omega)
  have hsd2 : s < d := by omega
  have hsd3 : (s : Int) < (d : Int) := by omega
  have hsw : IntKind.i64.wrap (s : Int) = (s : Int) := IntWalk.i64_in _ (by omega)
  have HV := hide hd
  clear hd
  gi_wp2_with fail
  have m2 : ((w3.alloc (.cells #[.int .i64 s] 3)).alloc (.cells #[.int .i64 0] 3)).heap[g + 2]? = some (.cells #[.int .i64 s] 3 (0, 0)) := by
    rw [Below.heap_alloc _ _ _ (by simp; omega), ← qz]
    exact World.alloc_heap_new _ _
  have m3 : ((w3.alloc (.cells #[.int .i64 s] 3)).alloc (.cells #[.int .i64 0] 3)).heap[g + 2 + 1]? = some (.cells #[.int .i64 0] 3 (0, 0)) := by
    have h := World.alloc_heap_new (w3.alloc (.cells #[.int .i64 s] 3)) (Obj.cells #[.int .i64 0] 3)
    simp only [World.size_alloc, qz] at h
    exact h
  have mB : Below w3.heap.size w3 ((w3.alloc (.cells #[.int .i64 s] 3)).alloc (.cells #[.int .i64 0] 3)) := ((Below.refl _ w3).alloc (Nat.le_refl _) _).alloc (by simp) _
  have mz : ((w3.alloc (.cells #[.int .i64 s] 3)).alloc (.cells #[.int .i64 0] 3)).heap.size = g + 4 := by simp [qz]
  generalize (w3.alloc (.cells #[.int .i64 s] 3)).alloc (.cells #[.int .i64 0] 3) = w4 at m2 m3 mB mz ⊢
  have t0 : w4.heap[w.heap.size]? = _ := (mB.block _ (by omega)).trans s0
  have t1 : w4.heap[w.heap.size + 1]? = _ := (mB.block _ (by omega)).trans s1
  have t2 : w4.heap[w.heap.size + 2]? = _ := (mB.block _ (by omega)).trans s2
  have u0 : w4.heap[g]? = _ := (mB.block _ (by omega)).trans q0
  have u1 : w4.heap[g + 1]? = _ := (mB.block _ (by omega)).trans q1
  have hR4 := hR3.step mB
  have hB4 := hB3.trans (mB.mono hB3.size)
  have hblk := blkR_lt hR3
  have hwl : (winL l n).length = d := by rw [winL_len l n n1, HV.out]; omega
  have hgn : w.heap.size + 3 ≤ g := by omega
  clear c0 c1 c0a c1a s0 s1 s2 q0 q1 mB hB3 hR3 hnil
  have HSd := hide hsd2
  clear hsd2 hsd3 hsd
  refine wpIn_rangeK (α := Nat × Nat) rfl (by omega) (gf := 55) (lb := #[.pointer (some ⟨g + 1, 0, none⟩), .pointer (some ⟨g, 0, none⟩)]) rfl trivial
    (enters_of Try.func55 (by kernel_rfl) rfl) (L := []) (K := (g + 1) :: g :: blkR A2 l) (by intro j hj; simp at hj)
    (by
      intro j hj
      rcases List.mem_cons.1 hj with rfl | hj
      · omega
      · rcases List.mem_cons.1 hj with rfl | hj
        · omega
        · have := hblk j hj; omega)
    (windows_seq 4 (g + 1) g A2 l c2 n w4 hR4 hc2 (by omega) (by omega) (by omega) u1 u0) (fun _ => rfl)
    (fun X pre W => W.heap[w.heap.size]? = some (.cells #[.slice (some ad) l.length c] 22 (0, 0)) ∧ W.heap[w.heap.size + 1]? = some (.cells #[.int .i64 n] 3 (0, 0)) ∧ W.heap[w.heap.size + 2]? = some (.cells #[.bool false] 4 (0, 0)) ∧
      W.heap[g + 2]? = some (.cells #[.int .i64 s] 3 (0, 0)) ∧ W.heap[g + 2 + 1]? = some (.cells #[.int .i64 (pre.length : Nat)] 3 (0, 0)) ∧ Below w.heap.size w W ∧ pre.length ≤ s)
    (fun X cd pre W => cd = .exit 0 ∧ s < d ∧ W.heap[w.heap.size + 2]? = some (.cells #[.bool false] 4 (0, 0)) ∧ W.heap[g + 2 + 1]? = some (.cells #[.int .i64 s] 3 (0, 0)) ∧ Below w.heap.size w W)
    ?hI ?hIx (fun X hX => ⟨t0, t1, t2, m2, m3, hB4, Nat.zero_le _⟩)
    (fun x => { tmps := #[.slice (some ad) l.length c, .int .i64 n, .int .u8 s, .pointer (some ⟨w.heap.size, 0, none⟩), .pointer (some ⟨w.heap.size + 1, 0, none⟩), undef, .pointer (some ⟨w.heap.size + 1 + 1, 0, none⟩), .func (.func 55) #[] #[.pointer (some ⟨g + 1, 0, none⟩), .pointer (some ⟨g, 0, none⟩)], .pointer (some ⟨g + 2, 0, none⟩), .int .i64 s, .pointer (some ⟨g + 2 + 1, 0, none⟩), .int .i64 (x.1 : Nat), .int .u32 (x.2 : Nat), .slice (some ad) l.length c, .int .i64 l.length, .bool false, undef, .slice (some ad) l.length c, .int .i64 n, .func (.func 55) #[] #[.pointer (some ⟨g + 1, 0, none⟩), .pointer (some ⟨g, 0, none⟩)], .func (.func 55) #[] #[.pointer (some ⟨g + 1, 0, none⟩), .pointer (some ⟨g, 0, none⟩)], .bool false, .int .u8 s, .int .i64 s, .int .i64 n, .bool true, .bool true, .int .i64 n, .slice (some ad) l.length c, .int .i64 l.length, .bool true, .bool true, .slice (some ad) l.length c, .int .i64 l.length, .int .i64 n, .int .i64 ((l.length : Int) - (n : Int)), .int .i64 d, .int .i64 s, .int .i64 s, .func (.func 55) #[] #[.pointer (some ⟨g + 1, 0, none⟩), .pointer (some ⟨g, 0, none⟩)], .int .i64 (x.1 : Nat), .int .u32 (x.2 : Nat), undef, undef, undef, undef, undef, undef, undef, undef, undef, undef, undef, undef, undef, undef, undef, undef, undef, undef, undef, undef, undef, undef, undef, undef, undef, undef, undef, undef, undef, undef, undef, undef, undef, undef, undef, undef, undef, undef], defers := [] }) ?assign ?body ?done ?stop
  case hI =>
    rintro X hX pre A3 B3 row ⟨h1, h2, h3, h4, h5, h6, h7⟩ hgr hr
    have ne : ∀ j, row = some j → w4.heap.size ≤ j := fun j e => by
      rcases hr j e with h | h
      · simp at h
      · exact h.1
    refine ⟨(hgr.block _ (Array.getElem?_eq_some_iff.1 h1).1 (fun e => ?_)).trans h1, (hgr.block _ (Array.getElem?_eq_some_iff.1 h2).1 (fun e => ?_)).trans h2, (hgr.block _ (Array.getElem?_eq_some_iff.1 h3).1 (fun e => ?_)).trans h3, (hgr.block _ (Array.getElem?_eq_some_iff.1 h4).1 (fun e => ?_)).trans h4, (hgr.block _ (Array.getElem?_eq_some_iff.1 h5).1 (fun e => ?_)).trans h5, h6.grown hgr h6.size (fun r e => ?_), h7⟩
    all_goals
      first
        | (have := ne _ e.symm; omega)
        | (have := ne _ e; omega)
  case hIx =>
    rintro X cd hX pre A3 B3 row ⟨h0, h1, h3, h5, h6⟩ hgr hr
    have ne : ∀ j, row = some j → w4.heap.size ≤ j := fun j e => by
      rcases hr j e with h | h
      · simp at h
      · exact h.1
    refine ⟨h0, h1, (hgr.block _ (Array.getElem?_eq_some_iff.1 h3).1 (fun e => ?_)).trans h3, (hgr.block _ (Array.getElem?_eq_some_iff.1 h5).1 (fun e => ?_)).trans h5, h6.grown hgr h6.size (fun r e => ?_)⟩
    all_goals
      first
        | (have := ne _ e.symm; omega)
        | (have := ne _ e; omega)
  case assign =>
    intro lp x W KK hK
    gi_wp2
    exact hK
  case body =>
    rintro X lp pre x W hX hXW ⟨h1, h2, h3, h4, h5, h6, h7⟩ hpre
    obtain ⟨x1, x2⟩ := x
    have hlt : pre.length < d := by
      have h := hpre.length_le
      rw [hwl] at h
      simp at h
      omega
    have hx : (winL l n)[pre.length]? = some (x1, x2) := by
      obtain ⟨r, hr⟩ := hpre
      rw [← hr]; simp
    have hx1 := winL_fst l n _ _ hx
    simp only at hx1
    subst hx1
    have hin : pre.length + n ≤ l.length := by have := HV.out; omega
    rw [winL_at l n _ n1 hin] at hx
    injection hx with hx
    injection hx with _ hx2
    have c0 : W.cell? ⟨w.heap.size, 0, none⟩ = some (.slice (some ad) l.length c) := cell_of_row _ _ _ _ _ _ h1
    have c1 : W.cell? ⟨w.heap.size + 1, 0, none⟩ = some (.int .i64 n) := cell_of_row _ _ _ _ _ _ h2
    have c4 : W.cell? ⟨g + 2, 0, none⟩ = some (.int .i64 s) := cell_of_row _ _ _ _ _ _ h4
    have c5 : W.cell? ⟨g + 2 + 1, 0, none⟩ = some (.int .i64 (pre.length : Nat)) := cell_of_row _ _ _ _ _ _ h5
    have z5 : W.frozen? ⟨g + 2 + 1, 0, none⟩ = false := frozen_of_row _ _ _ _ _ h5
    have hlE : (((pre ++ [(pre.length, x2)]).length : Nat) : Int) = ((pre.length : Nat) : Int) + 1 := by simp
    have HLE := hide hlE
    have HLN := hide (show (pre ++ [(pre.length, x2)]).length = pre.length + 1 by simp)
    have hRW := hA.below h6 (Nat.le_refl _)
    have hcv := conv_any (rsub hRW n pre.length) (c - pre.length)
    rw [show (winAt l n pre.length).length = n by unfold winAt; simp; omega] at hcv
    have HRf := hide (fun W2 : World => refWeak_any (winAt l n pre.length) W2 (by unfold winAt; simp; omega))
    rw [hx2] at HRf
    have hsm := fun W2 : World => slice_mid W2 ad l.length c pre.length (pre.length + n) (by omega) (by have := hc.1; omega) (by have := hc.1; omega)
    rw [show pre.length + n - pre.length = n by omega] at hsm
    obtain ⟨q, hq⟩ : ∃ q, q = pre.length + n := ⟨_, rfl⟩
    rw [← hq] at hsm
    have hqi : (pre.length : Int) + (n : Int) = (q : Int) := by omega
    have hqw : IntKind.i64.wrap (q : Int) = (q : Int) := IntWalk.i64_in _ (by omega)
    have hsub : IntKind.i64.wrap ((l.length : Int) - (pre.length : Int)) = (l.length : Int) - (pre.length : Int) := IntWalk.i64_in _ (by omega)
    have hgt : ¬ (l.length : Int) - (pre.length : Int) < (n : Int) := by omega
    have hpi : (pre.length : Int) ≤ 255 := by omega
    have HX := hide (And.intro h1 (And.intro h2 (And.intro h3 (And.intro h4 (And.intro h5 h6)))))
    generalize ofL (winAt l n pre.length) = sw at hcv HRf
    by_cases hps : pre.length = s
    · have E : ((pre.length : Int) == (s : Int)) = true := by rw [hps]; simp
      have hps2 : (pre.length : Int) = (s : Int) := by rw [hps]
      have HPS := hide (And.intro hps hlt)
      clear hps2 hps h1 h2 h3 h4 h5 h6 h7 hpre hlt hin hx2 hRW hlE hq hqi hqw hsub hgt hsm hcv HRf
      gi_wp2_with fail
      refine ⟨Lies.refl _ _, rfl, by have := HPS.out; omega, HX.out.2.2.1, ?_, HX.out.2.2.2.2.2⟩
      rw [HX.out.2.2.2.2.1, HPS.out.1]
    · have E : ((pre.length : Int) == (s : Int)) = false := by rw [beq_eq_false_iff_ne]; omega
      have HP := hide (show pre.length + 1 ≤ s by omega)
      clear hps h1 h2 h3 h4 h5 h6 h7 hpre hlt hin hx2 hRW hlE hq
      gi_wp2_with fail
      refine ⟨trivial, (CallsIn.inRound lp (callsIn_wide.2 (HRf.out _))).mono ?_⟩
      rintro e W2 ⟨rfl, rfl⟩
      gi_wp2_with fail
      obtain ⟨h1, h2, h3, h4, h5, h6⟩ := HX.out
      have eL := HLE.out
      refine ⟨.grown (grownBy_setCell W2 ⟨g + 2 + 1, 0, none⟩ (.int .i64 ((pre.length : Int) + 1))) (fun j hj => ?_) (fun r e hj => ?_), (heap_setCell_other _ _ _ _ (by simp; omega)).trans h1, (heap_setCell_other _ _ _ _ (by simp; omega)).trans h2, (heap_setCell_other _ _ _ _ (by simp; omega)).trans h3, (heap_setCell_other _ _ _ _ (by simp)).trans h4, ?_, h6.setCell (p := ⟨g + 2 + 1, 0, none⟩) (by simp; omega) _, by rw [HLN.out]; exact HP.out⟩
      · rcases hj with (hj | hj) | hj
        · simp at hj
        · omega
        · rcases List.mem_cons.1 hj with rfl | hj
          · omega
          · rcases List.mem_cons.1 hj with rfl | hj
            · omega
            · have := hblk j hj; omega
      · cases e
        rcases hj with (hj | hj) | hj
        · simp at hj
        · have h9 : w4.heap.size ≤ g + 2 + 1 := hj.1
          omega
        · rcases List.mem_cons.1 hj with hj | hj
          · simp at hj
          · rcases List.mem_cons.1 hj with hj | hj
            · simp at hj; omega
            · have h9 : g + 2 + 1 < w3.heap.size := hblk _ hj
              omega
      · rw [eL]
        exact heap_setCell_same _ _ _ _ _ _ h5
  case done =>
    rintro X D xs W hX hD hDX hS ⟨h1, h2, h3, h4, h5, h6, h7⟩ hK
    have hxl : xs.length = d := by rw [hS, hwl]
    rw [hxl] at h5 h7
    have kz : W.heap[w.heap.size + 1 + 1]? = some (.cells #[.bool false] 4 (0, 0)) := h3
    have H5 := hide h5
    have HK := hide (And.intro kz (And.intro hK h6))
    have c3 : W.cell? ⟨w.heap.size + 1 + 1, 0, none⟩ = some (.bool false) := cell_of_row _ _ _ _ _ _ kz
    have z3 : W.frozen? ⟨w.heap.size + 1 + 1, 0, none⟩ = false := frozen_of_row _ _ _ _ _ kz
    have c5 : W.cell? ⟨g + 2 + 1, 0, none⟩ = some (.int .i64 d) := cell_of_row _ _ _ _ _ _ h5
    have hbad := HSd.out
    have hno : False := by omega
    exact hno.elim
  case stop =>
    rintro X D cd pre W hX hD hDX hS ⟨rfl, h1, h3, h5, h6⟩ hK
    have kz : W.heap[w.heap.size + 1 + 1]? = some (.cells #[.bool false] 4 (0, 0)) := h3
    have H5 := hide h5
    have HK := hide (And.intro kz (And.intro hK h6))
    have c3 : W.cell? ⟨w.heap.size + 1 + 1, 0, none⟩ = some (.bool false) := cell_of_row _ _ _ _ _ _ kz
    have z3 : W.frozen? ⟨w.heap.size + 1 + 1, 0, none⟩ = false := frozen_of_row _ _ _ _ _ kz
    have c5 : W.cell? ⟨g + 2 + 1, 0, none⟩ = some (.int .i64 s) := cell_of_row _ _ _ _ _ _ h5
    clear hS h1
    clear kz hK h6 h3 h5
    gi_wp2_with fail
    refine ⟨trivial, (callsIn_wide.2 (rollAwake_any _)).mono ?_⟩
    rintro e W5 ⟨rfl, hB5⟩
    have k3 : W5.heap[w.heap.size + 1 + 1]? = some (.cells #[.bool false] 4 (0, 0)) := (hB5.block _ (Array.getElem?_eq_some_iff.1 HK.out.1).1).trans HK.out.1
    have kD : W5.heap[D]? = some (.deferred (some [])) := (hB5.block _ (Array.getElem?_eq_some_iff.1 HK.out.2.1).1).trans HK.out.2.1
    have kB : Below w.heap.size w W5 := HK.out.2.2.trans (hB5.mono HK.out.2.2.size)
    have c3 : W5.cell? ⟨w.heap.size + 1 + 1, 0, none⟩ = some (.bool false) := cell_of_row _ _ _ _ _ _ k3
    have z3 : W5.frozen? ⟨w.heap.size + 1 + 1, 0, none⟩ = false := frozen_of_row _ _ _ _ _ k3
    have k5 := (hB5.block _ (Array.getElem?_eq_some_iff.1 H5.out).1).trans H5.out
    have c5 := cell_of_row _ _ 0 _ _ _ k5
    simp only [List.getElem?_toArray, List.getElem?_cons_zero] at c5
    have HF := hide (And.intro k3 (And.intro kD kB))
    clear hB5 k3 kD kB k5
    gi_wp2_with fail
    obtain ⟨k3, kD, kB⟩ := HF.out
    have m3 : (W5.setCell ⟨w.heap.size + 1 + 1, 0, none⟩ (.bool true)).heap[w.heap.size + 1 + 1]? = some (.cells #[.bool true] 4 (0, 0)) := heap_setCell_same _ _ _ _ _ _ k3
    have mD : (W5.setCell ⟨w.heap.size + 1 + 1, 0, none⟩ (.bool true)).heap[D]? = some (.deferred (some [])) := (heap_setCell_other _ _ _ _ (by simp; omega)).trans kD
    have mB : Below w.heap.size w (W5.setCell ⟨w.heap.size + 1 + 1, 0, none⟩ (.bool true)) := kB.setCell (p := ⟨w.heap.size + 1 + 1, 0, none⟩) (by simp; omega) _
    refine ⟨by simp, .inl ⟨_, _, rfl, run_takeDeferred mD, ?_⟩⟩
    have y : ((W5.setCell ⟨w.heap.size + 1 + 1, 0, none⟩ (.bool true)).putObj D (.deferred none)).cell? ⟨w.heap.size + 1 + 1, 0, none⟩ = some (.bool true) := cell_of_row _ _ _ _ _ _ ((World.putObj_heap_other (by omega)).trans m3)
    refine ⟨.bool true, by simp [results, Try.results6, go_sem, y], rfl, ?_⟩
    exact mB.grown (grownBy_putObj' _ D (.deferred none)) mB.size (fun r e => by cases e; omega)

set_option maxHeartbeats 8000000 in
theorem rollWindows_all (ad : Addr) (l : List UInt8) (c n s : Nat) (w : World) (hA : RdB w w.heap.size (some ad) l) (hc : Caps (some ad) l.length c) (h1 : l.length ≤ 200) (n1 : 1 ≤ n) (n2 : n ≤ l.length) (hs : s < 256) (hsd : ¬ s < l.length - n + 1) :
    CallsIn Fence.wide 5 Try.prog 6 #[.slice (some ad) l.length c, .int .i64 n, .int .u8 s] w fun e w' => e = .returned (.bool true) ∧ Below w.heap.size w w' := by
  have h200 : ¬ (200 : Int) < l.length := by omega
  have n1i : (1 : Int) ≤ n := by omega
  have n2i : (n : Int) ≤ l.length := by omega
  have hll : (l.length : Int) ≤ 200 := by omega
  have hsi : (s : Int) < 256 := by omega
  refine callsIn_of_wp_marks Try.func6 rfl trivial ?_ rfl
  simp only [Try.ntmps6, List.size_toArray, List.length_cons, List.length_nil, Nat.reduceAdd, Nat.reduceSub, Array.replicate_succ, Array.replicate_zero, List.push_toArray, List.append_toArray, List.nil_append, List.cons_append]
  have r0 := chain_at [Obj.cells #[.slice (some ad) l.length c] 22, .cells #[.int .i64 n] 3, .cells #[.bool false] 4] w 0 _ rfl
  have r1 := chain_at [Obj.cells #[.slice (some ad) l.length c] 22, .cells #[.int .i64 n] 3, .cells #[.bool false] 4] w 1 _ rfl
  have r2 := chain_at [Obj.cells #[.slice (some ad) l.length c] 22, .cells #[.int .i64 n] 3, .cells #[.bool false] 4] w 2 _ rfl
  have hB := chain_below [Obj.cells #[.slice (some ad) l.length c] 22, .cells #[.int .i64 n] 3, .cells #[.bool false] 4] w
  have hz := chain_size [Obj.cells #[.slice (some ad) l.length c] 22, .cells #[.int .i64 n] 3, .cells #[.bool false] 4] w
  rw [Nat.add_zero] at r0
  simp only [List.foldl_cons, List.foldl_nil, List.length_cons, List.length_nil, Nat.reduceAdd] at r0 r1 r2 hB hz
  gi_wp2_with fail
  generalize ((w.alloc (.cells #[.slice (some ad) l.length c] 22)).alloc (.cells #[.int .i64 n] 3)).alloc (.cells #[.bool false] 4) = w1 at r0 r1 r2 hB hz ⊢
  have hA1 := (hA.below hB (Nat.le_refl _)).mono hB.size
  refine ⟨trivial, (callsIn_wide.2 (winsPub_any (some ad) l c n w1 hA1 hc (by omega))).mono ?_⟩
  rintro e w3 ⟨A2, c2, w2, rfl, hc2, hR2, hB2, hw3⟩
  have q0 := chain_at [Obj.cells #[.slice A2 l.length c2] 22, .cells #[.int .i64 n] 3] w2 0 _ rfl
  have q1 := chain_at [Obj.cells #[.slice A2 l.length c2] 22, .cells #[.int .i64 n] 3] w2 1 _ rfl
  have qB := chain_below [Obj.cells #[.slice A2 l.length c2] 22, .cells #[.int .i64 n] 3] w2
  have qz := chain_size [Obj.cells #[.slice A2 l.length c2] 22, .cells #[.int .i64 n] 3] w2
  rw [Nat.add_zero] at q0
  simp only [List.foldl_cons, List.foldl_nil, List.length_cons, List.length_nil, Nat.reduceAdd] at q0 q1 qB qz
  rw [← hw3] at q0 q1 qB qz
  have hnil := fun W : World => func_nil 55 ⟨w2.heap.size + 1, 0, none⟩ ⟨w2.heap.size, 0, none⟩ W
  have hz2 := hB2.size
  have s0 : w3.heap[w.heap.size]? = _ := (qB.block _ (by omega)).trans ((hB2.block _ (by omega)).trans r0)
  have s1 : w3.heap[w.heap.size + 1]? = _ := (qB.block _ (by omega)).trans ((hB2.block _ (by omega)).trans r1)
  have s2 : w3.heap[w.heap.size + 2]? = _ := (qB.block _ (by omega)).trans ((hB2.block _ (by omega)).trans r2)
  have hB3 := hB.trans ((hB2.trans (qB.mono hB2.size)).mono hB.size)
  have hR3 := hR2.step qB
  clear hw3 qB hB2 hB r0 r1 r2 hR2 hA1
  generalize w2.heap.size = g at q0 q1 qz hnil hz2 ⊢
  have c0 : w3.cell? ⟨w.heap.size, 0, none⟩ = some (.slice (some ad) l.length c) := cell_of_row _ _ _ _ _ _ s0
  have c1 : w3.cell? ⟨w.heap.size + 1, 0, none⟩ = some (.int .i64 n) := cell_of_row _ _ _ _ _ _ s1
  have c0a : ∀ o : Obj, (w3.alloc o).cell? ⟨w.heap.size, 0, none⟩ = some (.slice (some ad) l.length c) := fun o => cell_of_row _ _ _ _ _ _ ((Below.heap_alloc _ _ _ (by omega)).trans s0)
  have c1a : ∀ o : Obj, (w3.alloc o).cell? ⟨w.heap.size + 1, 0, none⟩ = some (.int .i64 n) := fun o => cell_of_row _ _ _ _ _ _ ((Below.heap_alloc _ _ _ (by omega)).trans s1)
  obtain ⟨d, hd⟩ : ∃ d, d = l.length - n + 1 := ⟨_, rfl⟩
  have hdi : (l.length : Int) - (n : Int) + 1 = (d : Int) := by omega
  have hdw : IntKind.i64.wrap (d : Int) = (d : Int) := IntWalk.i64_in _ (by omega)
  have hsd2 : ¬ s < d := by omega
  have hsd3 : ¬ (s : Int) < (d : Int) := by omega
  have hsw : IntKind.i64.wrap (s : Int) = (s : Int) := IntWalk.i64_in _ (by omega)
  have HV := hide hd
  clear hd
  gi_wp2_with fail
  have m2 : ((w3.alloc (.cells #[.int .i64 s] 3)).alloc (.cells #[.int .i64 0] 3)).heap[g + 2]? = some (.cells #[.int .i64 s] 3 (0, 0)) := by
    rw [Below.heap_alloc _ _ _ (by simp; omega), ← qz]
    exact World.alloc_heap_new _ _
  have m3 : ((w3.alloc (.cells #[.int .i64 s] 3)).alloc (.cells #[.int .i64 0] 3)).heap[g + 2 + 1]? = some (.cells #[.int .i64 0] 3 (0, 0)) := by
    have h := World.alloc_heap_new (w3.alloc (.cells #[.int .i64 s] 3)) (Obj.cells #[.int .i64 0] 3)
    simp only [World.size_alloc, qz] at h
    exact h
  have mB : Below w3.heap.size w3 ((w3.alloc (.cells #[.int .i64 s] 3)).alloc (.cells #[.int .i64 0] 3)) := ((Below.refl _ w3).alloc (Nat.le_refl _) _).alloc (by simp) _
  have mz : ((w3.alloc (.cells #[.int .i64 s] 3)).alloc (.cells #[.int .i64 0] 3)).heap.size = g + 4 := by simp [qz]
  generalize (w3.alloc (.cells #[.int .i64 s] 3)).alloc (.cells #[.int .i64 0] 3) = w4 at m2 m3 mB mz ⊢
  have t0 : w4.heap[w.heap.size]? = _ := (mB.block _ (by omega)).trans s0
  have t1 : w4.heap[w.heap.size + 1]? = _ := (mB.block _ (by omega)).trans s1
  have t2 : w4.heap[w.heap.size + 2]? = _ := (mB.block _ (by omega)).trans s2
  have u0 : w4.heap[g]? = _ := (mB.block _ (by omega)).trans q0
  have u1 : w4.heap[g + 1]? = _ := (mB.block _ (by omega)).trans q1
  have hR4 := hR3.step mB
  have hB4 := hB3.trans (mB.mono hB3.size)
  have hblk := blkR_lt hR3
  have hwl : (winL l n).length = d := by rw [winL_len l n n1, HV.out]; omega
  have hgn : w.heap.size + 3 ≤ g := by omega
  clear c0 c1 c0a c1a s0 s1 s2 q0 q1 mB hB3 hR3 hnil
  have HSd := hide hsd2
  clear hsd2 hsd3 hsd
  refine wpIn_rangeK (α := Nat × Nat) rfl (by omega) (gf := 55) (lb := #[.pointer (some ⟨g + 1, 0, none⟩), .pointer (some ⟨g, 0, none⟩)]) rfl trivial
    (enters_of Try.func55 (by kernel_rfl) rfl) (L := []) (K := (g + 1) :: g :: blkR A2 l) (by intro j hj; simp at hj)
    (by
      intro j hj
      rcases List.mem_cons.1 hj with rfl | hj
      · omega
      · rcases List.mem_cons.1 hj with rfl | hj
        · omega
        · have := hblk j hj; omega)
    (windows_seq 4 (g + 1) g A2 l c2 n w4 hR4 hc2 (by omega) (by omega) (by omega) u1 u0) (fun _ => rfl)
    (fun X pre W => W.heap[w.heap.size]? = some (.cells #[.slice (some ad) l.length c] 22 (0, 0)) ∧ W.heap[w.heap.size + 1]? = some (.cells #[.int .i64 n] 3 (0, 0)) ∧ W.heap[w.heap.size + 2]? = some (.cells #[.bool false] 4 (0, 0)) ∧
      W.heap[g + 2]? = some (.cells #[.int .i64 s] 3 (0, 0)) ∧ W.heap[g + 2 + 1]? = some (.cells #[.int .i64 (pre.length : Nat)] 3 (0, 0)) ∧ Below w.heap.size w W ∧ pre.length ≤ s)
    (fun X cd pre W => cd = .exit 0 ∧ s < d ∧ W.heap[w.heap.size + 2]? = some (.cells #[.bool false] 4 (0, 0)) ∧ W.heap[g + 2 + 1]? = some (.cells #[.int .i64 s] 3 (0, 0)) ∧ Below w.heap.size w W)
    ?hI ?hIx (fun X hX => ⟨t0, t1, t2, m2, m3, hB4, Nat.zero_le _⟩)
    (fun x => { tmps := #[.slice (some ad) l.length c, .int .i64 n, .int .u8 s, .pointer (some ⟨w.heap.size, 0, none⟩), .pointer (some ⟨w.heap.size + 1, 0, none⟩), undef, .pointer (some ⟨w.heap.size + 1 + 1, 0, none⟩), .func (.func 55) #[] #[.pointer (some ⟨g + 1, 0, none⟩), .pointer (some ⟨g, 0, none⟩)], .pointer (some ⟨g + 2, 0, none⟩), .int .i64 d, .pointer (some ⟨g + 2 + 1, 0, none⟩), .int .i64 (x.1 : Nat), .int .u32 (x.2 : Nat), .slice (some ad) l.length c, .int .i64 l.length, .bool false, undef, .slice (some ad) l.length c, .int .i64 n, .func (.func 55) #[] #[.pointer (some ⟨g + 1, 0, none⟩), .pointer (some ⟨g, 0, none⟩)], .func (.func 55) #[] #[.pointer (some ⟨g + 1, 0, none⟩), .pointer (some ⟨g, 0, none⟩)], .bool false, .int .u8 s, .int .i64 s, .int .i64 n, .bool true, .bool true, .int .i64 n, .slice (some ad) l.length c, .int .i64 l.length, .bool true, .bool true, .slice (some ad) l.length c, .int .i64 l.length, .int .i64 n, .int .i64 ((l.length : Int) - (n : Int)), .int .i64 d, .int .i64 s, .int .i64 d, .func (.func 55) #[] #[.pointer (some ⟨g + 1, 0, none⟩), .pointer (some ⟨g, 0, none⟩)], .int .i64 (x.1 : Nat), .int .u32 (x.2 : Nat), undef, undef, undef, undef, undef, undef, undef, undef, undef, undef, undef, undef, undef, undef, undef, undef, undef, undef, undef, undef, undef, undef, undef, undef, undef, undef, undef, undef, undef, undef, undef, undef, undef, undef, undef, undef, undef, undef], defers := [] }) ?assign ?body ?done ?stop
  case hI =>
    rintro X hX pre A3 B3 row ⟨h1, h2, h3, h4, h5, h6, h7⟩ hgr hr
    have ne : ∀ j, row = some j → w4.heap.size ≤ j := fun j e => by
      rcases hr j e with h | h
      · simp at h
      · exact h.1
    refine ⟨(hgr.block _ (Array.getElem?_eq_some_iff.1 h1).1 (fun e => ?_)).trans h1, (hgr.block _ (Array.getElem?_eq_some_iff.1 h2).1 (fun e => ?_)).trans h2, (hgr.block _ (Array.getElem?_eq_some_iff.1 h3).1 (fun e => ?_)).trans h3, (hgr.block _ (Array.getElem?_eq_some_iff.1 h4).1 (fun e => ?_)).trans h4, (hgr.block _ (Array.getElem?_eq_some_iff.1 h5).1 (fun e => ?_)).trans h5, h6.grown hgr h6.size (fun r e => ?_), h7⟩
    all_goals
      first
        | (have := ne _ e.symm; omega)
        | (have := ne _ e; omega)
  case hIx =>
    rintro X cd hX pre A3 B3 row ⟨h0, h1, h3, h5, h6⟩ hgr hr
    have ne : ∀ j, row = some j → w4.heap.size ≤ j := fun j e => by
      rcases hr j e with h | h
      · simp at h
      · exact h.1
    refine ⟨h0, h1, (hgr.block _ (Array.getElem?_eq_some_iff.1 h3).1 (fun e => ?_)).trans h3, (hgr.block _ (Array.getElem?_eq_some_iff.1 h5).1 (fun e => ?_)).trans h5, h6.grown hgr h6.size (fun r e => ?_)⟩
    all_goals
      first
        | (have := ne _ e.symm; omega)
        | (have := ne _ e; omega)
  case assign =>
    intro lp x W KK hK
    gi_wp2
    exact hK
  case body =>
    rintro X lp pre x W hX hXW ⟨h1, h2, h3, h4, h5, h6, h7⟩ hpre
    obtain ⟨x1, x2⟩ := x
    have hlt : pre.length < d := by
      have h := hpre.length_le
      rw [hwl] at h
      simp at h
      omega
    have hx : (winL l n)[pre.length]? = some (x1, x2) := by
      obtain ⟨r, hr⟩ := hpre
      rw [← hr]; simp
    have hx1 := winL_fst l n _ _ hx
    simp only at hx1
    subst hx1
    have hin : pre.length + n ≤ l.length := by have := HV.out; omega
    rw [winL_at l n _ n1 hin] at hx
    injection hx with hx
    injection hx with _ hx2
    have c0 : W.cell? ⟨w.heap.size, 0, none⟩ = some (.slice (some ad) l.length c) := cell_of_row _ _ _ _ _ _ h1
    have c1 : W.cell? ⟨w.heap.size + 1, 0, none⟩ = some (.int .i64 n) := cell_of_row _ _ _ _ _ _ h2
    have c4 : W.cell? ⟨g + 2, 0, none⟩ = some (.int .i64 s) := cell_of_row _ _ _ _ _ _ h4
    have c5 : W.cell? ⟨g + 2 + 1, 0, none⟩ = some (.int .i64 (pre.length : Nat)) := cell_of_row _ _ _ _ _ _ h5
    have z5 : W.frozen? ⟨g + 2 + 1, 0, none⟩ = false := frozen_of_row _ _ _ _ _ h5
    have hlE : (((pre ++ [(pre.length, x2)]).length : Nat) : Int) = ((pre.length : Nat) : Int) + 1 := by simp
    have HLE := hide hlE
    have HLN := hide (show (pre ++ [(pre.length, x2)]).length = pre.length + 1 by simp)
    have hRW := hA.below h6 (Nat.le_refl _)
    have hcv := conv_any (rsub hRW n pre.length) (c - pre.length)
    rw [show (winAt l n pre.length).length = n by unfold winAt; simp; omega] at hcv
    have HRf := hide (fun W2 : World => refWeak_any (winAt l n pre.length) W2 (by unfold winAt; simp; omega))
    rw [hx2] at HRf
    have hsm := fun W2 : World => slice_mid W2 ad l.length c pre.length (pre.length + n) (by omega) (by have := hc.1; omega) (by have := hc.1; omega)
    rw [show pre.length + n - pre.length = n by omega] at hsm
    obtain ⟨q, hq⟩ : ∃ q, q = pre.length + n := ⟨_, rfl⟩
    rw [← hq] at hsm
    have hqi : (pre.length : Int) + (n : Int) = (q : Int) := by omega
    have hqw : IntKind.i64.wrap (q : Int) = (q : Int) := IntWalk.i64_in _ (by omega)
    have hsub : IntKind.i64.wrap ((l.length : Int) - (pre.length : Int)) = (l.length : Int) - (pre.length : Int) := IntWalk.i64_in _ (by omega)
    have hgt : ¬ (l.length : Int) - (pre.length : Int) < (n : Int) := by omega
    have hpi : (pre.length : Int) ≤ 255 := by omega
    have HX := hide (And.intro h1 (And.intro h2 (And.intro h3 (And.intro h4 (And.intro h5 h6)))))
    generalize ofL (winAt l n pre.length) = sw at hcv HRf
    by_cases hps : pre.length = s
    · have E : ((pre.length : Int) == (s : Int)) = true := by rw [hps]; simp
      have hps2 : (pre.length : Int) = (s : Int) := by rw [hps]
      have HPS := hide (And.intro hps hlt)
      clear hps2 hps h1 h2 h3 h4 h5 h6 h7 hpre hlt hin hx2 hRW hlE hq hqi hqw hsub hgt hsm hcv HRf
      gi_wp2_with fail
      refine ⟨Lies.refl _ _, rfl, by have := HPS.out; omega, HX.out.2.2.1, ?_, HX.out.2.2.2.2.2⟩
      rw [HX.out.2.2.2.2.1, HPS.out.1]
    · have E : ((pre.length : Int) == (s : Int)) = false := by rw [beq_eq_false_iff_ne]; omega
      have HP := hide (show pre.length + 1 ≤ s by omega)
      clear hps h1 h2 h3 h4 h5 h6 h7 hpre hlt hin hx2 hRW hlE hq
      gi_wp2_with fail
      refine ⟨trivial, (CallsIn.inRound lp (callsIn_wide.2 (HRf.out _))).mono ?_⟩
      rintro e W2 ⟨rfl, rfl⟩
      gi_wp2_with fail
      obtain ⟨h1, h2, h3, h4, h5, h6⟩ := HX.out
      have eL := HLE.out
      refine ⟨.grown (grownBy_setCell W2 ⟨g + 2 + 1, 0, none⟩ (.int .i64 ((pre.length : Int) + 1))) (fun j hj => ?_) (fun r e hj => ?_), (heap_setCell_other _ _ _ _ (by simp; omega)).trans h1, (heap_setCell_other _ _ _ _ (by simp; omega)).trans h2, (heap_setCell_other _ _ _ _ (by simp; omega)).trans h3, (heap_setCell_other _ _ _ _ (by simp)).trans h4, ?_, h6.setCell (p := ⟨g + 2 + 1, 0, none⟩) (by simp; omega) _, by rw [HLN.out]; exact HP.out⟩
      · rcases hj with (hj | hj) | hj
        · simp at hj
        · omega
        · rcases List.mem_cons.1 hj with rfl | hj
          · omega
          · rcases List.mem_cons.1 hj with rfl | hj
            · omega
            · have := hblk j hj; omega
      · cases e
        rcases hj with (hj | hj) | hj
        · simp at hj
        · have h9 : w4.heap.size ≤ g + 2 + 1 := hj.1
          omega
        · rcases List.mem_cons.1 hj with hj | hj
          · simp at hj
          · rcases List.mem_cons.1 hj with hj | hj
            · simp at hj; omega
            · have h9 : g + 2 + 1 < w3.heap.size := hblk _ hj
              omega
      · rw [eL]
        exact heap_setCell_same _ _ _ _ _ _ h5
  case done =>
    rintro X D xs W hX hD hDX hS ⟨h1, h2, h3, h4, h5, h6, h7⟩ hK
    have hxl : xs.length = d := by rw [hS, hwl]
    rw [hxl] at h5 h7
    have kz : W.heap[w.heap.size + 1 + 1]? = some (.cells #[.bool false] 4 (0, 0)) := h3
    have H5 := hide h5
    have HK := hide (And.intro kz (And.intro hK h6))
    have c3 : W.cell? ⟨w.heap.size + 1 + 1, 0, none⟩ = some (.bool false) := cell_of_row _ _ _ _ _ _ kz
    have z3 : W.frozen? ⟨w.heap.size + 1 + 1, 0, none⟩ = false := frozen_of_row _ _ _ _ _ kz
    have c5 : W.cell? ⟨g + 2 + 1, 0, none⟩ = some (.int .i64 d) := cell_of_row _ _ _ _ _ _ h5
    clear hS hxl h7 h1 h2 h4
    clear kz hK h6 h3 h5
    gi_wp2_with fail
    refine ⟨trivial, (callsIn_wide.2 (rollAwake_any _)).mono ?_⟩
    rintro e W5 ⟨rfl, hB5⟩
    have k3 : W5.heap[w.heap.size + 1 + 1]? = some (.cells #[.bool false] 4 (0, 0)) := (hB5.block _ (Array.getElem?_eq_some_iff.1 HK.out.1).1).trans HK.out.1
    have kD : W5.heap[D]? = some (.deferred (some [])) := (hB5.block _ (Array.getElem?_eq_some_iff.1 HK.out.2.1).1).trans HK.out.2.1
    have kB : Below w.heap.size w W5 := HK.out.2.2.trans (hB5.mono HK.out.2.2.size)
    have c3 : W5.cell? ⟨w.heap.size + 1 + 1, 0, none⟩ = some (.bool false) := cell_of_row _ _ _ _ _ _ k3
    have z3 : W5.frozen? ⟨w.heap.size + 1 + 1, 0, none⟩ = false := frozen_of_row _ _ _ _ _ k3
    have k5 := (hB5.block _ (Array.getElem?_eq_some_iff.1 H5.out).1).trans H5.out
    have c5 := cell_of_row _ _ 0 _ _ _ k5
    simp only [List.getElem?_toArray, List.getElem?_cons_zero] at c5
    have HF := hide (And.intro k3 (And.intro kD kB))
    clear hB5 k3 kD kB k5
    gi_wp2_with fail
    obtain ⟨k3, kD, kB⟩ := HF.out
    have m3 : (W5.setCell ⟨w.heap.size + 1 + 1, 0, none⟩ (.bool true)).heap[w.heap.size + 1 + 1]? = some (.cells #[.bool true] 4 (0, 0)) := heap_setCell_same _ _ _ _ _ _ k3
    have mD : (W5.setCell ⟨w.heap.size + 1 + 1, 0, none⟩ (.bool true)).heap[D]? = some (.deferred (some [])) := (heap_setCell_other _ _ _ _ (by simp; omega)).trans kD
    have mB : Below w.heap.size w (W5.setCell ⟨w.heap.size + 1 + 1, 0, none⟩ (.bool true)) := kB.setCell (p := ⟨w.heap.size + 1 + 1, 0, none⟩) (by simp; omega) _
    refine ⟨by simp, .inl ⟨_, _, rfl, run_takeDeferred mD, ?_⟩⟩
    have y : ((W5.setCell ⟨w.heap.size + 1 + 1, 0, none⟩ (.bool true)).putObj D (.deferred none)).cell? ⟨w.heap.size + 1 + 1, 0, none⟩ = some (.bool true) := cell_of_row _ _ _ _ _ _ ((World.putObj_heap_other (by omega)).trans m3)
    refine ⟨.bool true, by simp [results, Try.results6, go_sem, y], rfl, ?_⟩
    exact mB.grown (grownBy_putObj' _ D (.deferred none)) mB.size (fun r e => by cases e; omega)
  case stop =>
    rintro X D cd pre W hX hD hDX hS ⟨rfl, h1, h3, h5, h6⟩ hK
    have kz : W.heap[w.heap.size + 1 + 1]? = some (.cells #[.bool false] 4 (0, 0)) := h3
    have H5 := hide h5
    have HK := hide (And.intro kz (And.intro hK h6))
    have c3 : W.cell? ⟨w.heap.size + 1 + 1, 0, none⟩ = some (.bool false) := cell_of_row _ _ _ _ _ _ kz
    have z3 : W.frozen? ⟨w.heap.size + 1 + 1, 0, none⟩ = false := frozen_of_row _ _ _ _ _ kz
    have c5 : W.cell? ⟨g + 2 + 1, 0, none⟩ = some (.int .i64 s) := cell_of_row _ _ _ _ _ _ h5
    have hbad := HSd.out
    have hno : False := by omega
    exact hno.elim
set_option maxHeartbeats 8000000 in
theorem rollWindows_low (A : Option Addr) (l : List UInt8) (c : Nat) (k : Int) (s : Nat) (w : World) (hA : RdB w w.heap.size A l) (hc : Caps A l.length c) (h1 : l.length ≤ 200) (hs : s < 256) (hk : k < 1) :
    CallsIn Fence.wide 5 Try.prog 6 #[.slice A l.length c, .int .i64 k, .int .u8 s] w fun e w' => e = .returned (.bool true) ∧ Below w.heap.size w w' := by
  have h200 : ¬ (200 : Int) < l.length := by omega
  have hk1 : ¬ (1 : Int) ≤ k := by omega
  have hwl := hide (winL_none l k (by omega))
  have hll : (l.length : Int) ≤ 200 := by omega
  have hsi : (s : Int) < 256 := by omega
  refine callsIn_of_wp_marks Try.func6 rfl trivial ?_ rfl
  simp only [Try.ntmps6, List.size_toArray, List.length_cons, List.length_nil, Nat.reduceAdd, Nat.reduceSub, Array.replicate_succ, Array.replicate_zero, List.push_toArray, List.append_toArray, List.nil_append, List.cons_append]
  have r0 := chain_at [Obj.cells #[.slice A l.length c] 22, .cells #[.int .i64 k] 3, .cells #[.bool false] 4] w 0 _ rfl
  have r1 := chain_at [Obj.cells #[.slice A l.length c] 22, .cells #[.int .i64 k] 3, .cells #[.bool false] 4] w 1 _ rfl
  have r2 := chain_at [Obj.cells #[.slice A l.length c] 22, .cells #[.int .i64 k] 3, .cells #[.bool false] 4] w 2 _ rfl
  have hB := chain_below [Obj.cells #[.slice A l.length c] 22, .cells #[.int .i64 k] 3, .cells #[.bool false] 4] w
  have hz := chain_size [Obj.cells #[.slice A l.length c] 22, .cells #[.int .i64 k] 3, .cells #[.bool false] 4] w
  rw [Nat.add_zero] at r0
  simp only [List.foldl_cons, List.foldl_nil, List.length_cons, List.length_nil, Nat.reduceAdd] at r0 r1 r2 hB hz
  gi_wp2_with fail
  generalize ((w.alloc (.cells #[.slice A l.length c] 22)).alloc (.cells #[.int .i64 k] 3)).alloc (.cells #[.bool false] 4) = w1 at r0 r1 r2 hB hz ⊢
  have hA1 := (hA.below hB (Nat.le_refl _)).mono hB.size
  refine ⟨trivial, (callsIn_wide.2 (winsPub_any A l c k w1 hA1 hc (by omega))).mono ?_⟩
  rintro e w3 ⟨A2, c2, w2, rfl, hc2, hR2, hB2, hw3⟩
  have q0 := chain_at [Obj.cells #[.slice A2 l.length c2] 22, .cells #[.int .i64 k] 3] w2 0 _ rfl
  have q1 := chain_at [Obj.cells #[.slice A2 l.length c2] 22, .cells #[.int .i64 k] 3] w2 1 _ rfl
  have qB := chain_below [Obj.cells #[.slice A2 l.length c2] 22, .cells #[.int .i64 k] 3] w2
  have qz := chain_size [Obj.cells #[.slice A2 l.length c2] 22, .cells #[.int .i64 k] 3] w2
  rw [Nat.add_zero] at q0
  simp only [List.foldl_cons, List.foldl_nil, List.length_cons, List.length_nil, Nat.reduceAdd] at q0 q1 qB qz
  rw [← hw3] at q0 q1 qB qz
  have hnil := fun W : World => func_nil 55 ⟨w2.heap.size + 1, 0, none⟩ ⟨w2.heap.size, 0, none⟩ W
  have hz2 := hB2.size
  have s0 : w3.heap[w.heap.size]? = _ := (qB.block _ (by omega)).trans ((hB2.block _ (by omega)).trans r0)
  have s1 : w3.heap[w.heap.size + 1]? = _ := (qB.block _ (by omega)).trans ((hB2.block _ (by omega)).trans r1)
  have s2 : w3.heap[w.heap.size + 2]? = _ := (qB.block _ (by omega)).trans ((hB2.block _ (by omega)).trans r2)
  have hB3 := hB.trans ((hB2.trans (qB.mono hB2.size)).mono hB.size)
  have hR3 := hR2.step qB
  clear hw3 qB hB2 hB r0 r1 r2 hR2 hA1
  generalize w2.heap.size = g at q0 q1 qz hnil hz2 ⊢
  have c0 : w3.cell? ⟨w.heap.size, 0, none⟩ = some (.slice A l.length c) := cell_of_row _ _ _ _ _ _ s0
  have c1 : w3.cell? ⟨w.heap.size + 1, 0, none⟩ = some (.int .i64 k) := cell_of_row _ _ _ _ _ _ s1
  have c0a : ∀ o : Obj, (w3.alloc o).cell? ⟨w.heap.size, 0, none⟩ = some (.slice A l.length c) := fun o => cell_of_row _ _ _ _ _ _ ((Below.heap_alloc _ _ _ (by omega)).trans s0)
  have c1a : ∀ o : Obj, (w3.alloc o).cell? ⟨w.heap.size + 1, 0, none⟩ = some (.int .i64 k) := fun o => cell_of_row _ _ _ _ _ _ ((Below.heap_alloc _ _ _ (by omega)).trans s1)
  have hsw : IntKind.i64.wrap (s : Int) = (s : Int) := IntWalk.i64_in _ (by omega)
  gi_wp2_with fail
  have m2 : ((w3.alloc (.cells #[.int .i64 s] 3)).alloc (.cells #[.int .i64 0] 3)).heap[g + 2]? = some (.cells #[.int .i64 s] 3 (0, 0)) := by
    rw [Below.heap_alloc _ _ _ (by simp; omega), ← qz]
    exact World.alloc_heap_new _ _
  have m3 : ((w3.alloc (.cells #[.int .i64 s] 3)).alloc (.cells #[.int .i64 0] 3)).heap[g + 2 + 1]? = some (.cells #[.int .i64 0] 3 (0, 0)) := by
    have h := World.alloc_heap_new (w3.alloc (.cells #[.int .i64 s] 3)) (Obj.cells #[.int .i64 0] 3)
    simp only [World.size_alloc, qz] at h
    exact h
  have mB : Below w3.heap.size w3 ((w3.alloc (.cells #[.int .i64 s] 3)).alloc (.cells #[.int .i64 0] 3)) := ((Below.refl _ w3).alloc (Nat.le_refl _) _).alloc (by simp) _
  have mz : ((w3.alloc (.cells #[.int .i64 s] 3)).alloc (.cells #[.int .i64 0] 3)).heap.size = g + 4 := by simp [qz]
  generalize (w3.alloc (.cells #[.int .i64 s] 3)).alloc (.cells #[.int .i64 0] 3) = w4 at m2 m3 mB mz ⊢
  have t0 : w4.heap[w.heap.size]? = _ := (mB.block _ (by omega)).trans s0
  have t1 : w4.heap[w.heap.size + 1]? = _ := (mB.block _ (by omega)).trans s1
  have t2 : w4.heap[w.heap.size + 2]? = _ := (mB.block _ (by omega)).trans s2
  have u0 : w4.heap[g]? = _ := (mB.block _ (by omega)).trans q0
  have u1 : w4.heap[g + 1]? = _ := (mB.block _ (by omega)).trans q1
  have hR4 := hR3.step mB
  have hB4 := hB3.trans (mB.mono hB3.size)
  have hblk := blkR_lt hR3
  have hgn : w.heap.size + 3 ≤ g := by omega
  clear c0 c1 c0a c1a s0 s1 s2 q0 q1 mB hB3 hR3 hnil
  refine wpIn_rangeK (α := Nat × Nat) rfl (by omega) (gf := 55) (lb := #[.pointer (some ⟨g + 1, 0, none⟩), .pointer (some ⟨g, 0, none⟩)]) rfl trivial
    (enters_of Try.func55 (by kernel_rfl) rfl) (L := []) (K := (g + 1) :: g :: blkR A2 l) (by intro j hj; simp at hj)
    (by
      intro j hj
      rcases List.mem_cons.1 hj with rfl | hj
      · omega
      · rcases List.mem_cons.1 hj with rfl | hj
        · omega
        · have := hblk j hj; omega)
    (windows_seq 4 (g + 1) g A2 l c2 k w4 hR4 hc2 (by omega) (by omega) (by omega) u1 u0) (fun _ => rfl)
    (fun X pre W => W.heap[w.heap.size + 2]? = some (.cells #[.bool false] 4 (0, 0)) ∧ W.heap[g + 2 + 1]? = some (.cells #[.int .i64 0] 3 (0, 0)) ∧ Below w.heap.size w W)
    (fun X cd pre W => False)
    ?hI ?hIx (fun X hX => ⟨t2, m3, hB4⟩)
    (fun x => { tmps := #[.slice A l.length c, .int .i64 k, .int .u8 s, .pointer (some ⟨w.heap.size, 0, none⟩), .pointer (some ⟨w.heap.size + 1, 0, none⟩), undef, .pointer (some ⟨w.heap.size + 1 + 1, 0, none⟩), .func (.func 55) #[] #[.pointer (some ⟨g + 1, 0, none⟩), .pointer (some ⟨g, 0, none⟩)], .pointer (some ⟨g + 2, 0, none⟩), .int .i64 0, .pointer (some ⟨g + 2 + 1, 0, none⟩), .int .i64 (x.1 : Nat), .int .u32 (x.2 : Nat), .slice A l.length c, .int .i64 l.length, .bool false, undef, .slice A l.length c, .int .i64 k, .func (.func 55) #[] #[.pointer (some ⟨g + 1, 0, none⟩), .pointer (some ⟨g, 0, none⟩)], .func (.func 55) #[] #[.pointer (some ⟨g + 1, 0, none⟩), .pointer (some ⟨g, 0, none⟩)], .bool false, .int .u8 s, .int .i64 s, .int .i64 k, .bool false, .bool false, undef, undef, undef, undef, .bool false, undef, undef, undef, undef, undef, undef, undef, .func (.func 55) #[] #[.pointer (some ⟨g + 1, 0, none⟩), .pointer (some ⟨g, 0, none⟩)], .int .i64 (x.1 : Nat), .int .u32 (x.2 : Nat), undef, undef, undef, undef, undef, undef, undef, undef, undef, undef, undef, undef, undef, undef, undef, undef, undef, undef, undef, undef, undef, undef, undef, undef, undef, undef, undef, undef, undef, undef, undef, undef, undef, undef, undef, undef, undef, undef], defers := [] }) ?assign ?body ?done ?stop
  case hI =>
    rintro X hX pre A3 B3 row ⟨h3, h5, h6⟩ hgr hr
    have ne : ∀ j, row = some j → w4.heap.size ≤ j := fun j e => by
      rcases hr j e with h | h
      · simp at h
      · exact h.1
    refine ⟨(hgr.block _ (Array.getElem?_eq_some_iff.1 h3).1 (fun e => ?_)).trans h3, (hgr.block _ (Array.getElem?_eq_some_iff.1 h5).1 (fun e => ?_)).trans h5, h6.grown hgr h6.size (fun r e => ?_)⟩
    all_goals
      first
        | (have := ne _ e.symm; omega)
        | (have := ne _ e; omega)
  case hIx =>
    rintro X cd hX pre A3 B3 row h hgr hr
    exact h
  case assign =>
    intro lp x W KK hK
    gi_wp2
    exact hK
  case body =>
    rintro X lp pre x W hX hXW hJ hpre
    have h := hpre.length_le
    rw [hwl.out] at h
    simp at h
  case stop =>
    rintro X D cd pre W hX hD hDX hS h hK
    exact h.elim
  case done =>
    rintro X D xs W hX hD hDX hS ⟨h3, h5, h6⟩ hK
    have kz : W.heap[w.heap.size + 1 + 1]? = some (.cells #[.bool false] 4 (0, 0)) := h3
    have H5 := hide h5
    have HK := hide (And.intro kz (And.intro hK h6))
    have c3 : W.cell? ⟨w.heap.size + 1 + 1, 0, none⟩ = some (.bool false) := cell_of_row _ _ _ _ _ _ kz
    have z3 : W.frozen? ⟨w.heap.size + 1 + 1, 0, none⟩ = false := frozen_of_row _ _ _ _ _ kz
    have c5 : W.cell? ⟨g + 2 + 1, 0, none⟩ = some (.int .i64 0) := cell_of_row _ _ _ _ _ _ h5
    clear hS
    clear kz hK h6 h3 h5
    gi_wp2_with fail
    refine ⟨trivial, (callsIn_wide.2 (rollAwake_any _)).mono ?_⟩
    rintro e W5 ⟨rfl, hB5⟩
    have k3 : W5.heap[w.heap.size + 1 + 1]? = some (.cells #[.bool false] 4 (0, 0)) := (hB5.block _ (Array.getElem?_eq_some_iff.1 HK.out.1).1).trans HK.out.1
    have kD : W5.heap[D]? = some (.deferred (some [])) := (hB5.block _ (Array.getElem?_eq_some_iff.1 HK.out.2.1).1).trans HK.out.2.1
    have kB : Below w.heap.size w W5 := HK.out.2.2.trans (hB5.mono HK.out.2.2.size)
    have c3 : W5.cell? ⟨w.heap.size + 1 + 1, 0, none⟩ = some (.bool false) := cell_of_row _ _ _ _ _ _ k3
    have z3 : W5.frozen? ⟨w.heap.size + 1 + 1, 0, none⟩ = false := frozen_of_row _ _ _ _ _ k3
    have k5 := (hB5.block _ (Array.getElem?_eq_some_iff.1 H5.out).1).trans H5.out
    have c5 := cell_of_row _ _ 0 _ _ _ k5
    simp only [List.getElem?_toArray, List.getElem?_cons_zero] at c5
    have HF := hide (And.intro k3 (And.intro kD kB))
    clear hB5 k3 kD kB k5
    gi_wp2_with fail
    obtain ⟨k3, kD, kB⟩ := HF.out
    have m3 : (W5.setCell ⟨w.heap.size + 1 + 1, 0, none⟩ (.bool true)).heap[w.heap.size + 1 + 1]? = some (.cells #[.bool true] 4 (0, 0)) := heap_setCell_same _ _ _ _ _ _ k3
    have mD : (W5.setCell ⟨w.heap.size + 1 + 1, 0, none⟩ (.bool true)).heap[D]? = some (.deferred (some [])) := (heap_setCell_other _ _ _ _ (by simp; omega)).trans kD
    have mB : Below w.heap.size w (W5.setCell ⟨w.heap.size + 1 + 1, 0, none⟩ (.bool true)) := kB.setCell (p := ⟨w.heap.size + 1 + 1, 0, none⟩) (by simp; omega) _
    refine ⟨by simp, .inl ⟨_, _, rfl, run_takeDeferred mD, ?_⟩⟩
    have y : ((W5.setCell ⟨w.heap.size + 1 + 1, 0, none⟩ (.bool true)).putObj D (.deferred none)).cell? ⟨w.heap.size + 1 + 1, 0, none⟩ = some (.bool true) := cell_of_row _ _ _ _ _ _ ((World.putObj_heap_other (by omega)).trans m3)
    refine ⟨.bool true, by simp [results, Try.results6, go_sem, y], rfl, ?_⟩
    exact mB.grown (grownBy_putObj' _ D (.deferred none)) mB.size (fun r e => by cases e; omega)

set_option maxHeartbeats 8000000 in
theorem rollWindows_high (A : Option Addr) (l : List UInt8) (c : Nat) (k : Int) (s : Nat) (w : World) (hA : RdB w w.heap.size A l) (hc : Caps A l.length c) (h1 : l.length ≤ 200) (hs : s < 256) (hk : 1 ≤ k ∧ (l.length : Int) < k) :
    CallsIn Fence.wide 5 Try.prog 6 #[.slice A l.length c, .int .i64 k, .int .u8 s] w fun e w' => e = .returned (.bool true) ∧ Below w.heap.size w w' := by
  have h200 : ¬ (200 : Int) < l.length := by omega
  obtain ⟨hk1, hk2⟩ := hk
  have hk3 : ¬ k ≤ (l.length : Int) := by omega
  have hwl := hide (winL_none l k (by omega))
  have hll : (l.length : Int) ≤ 200 := by omega
  have hsi : (s : Int) < 256 := by omega
  refine callsIn_of_wp_marks Try.func6 rfl trivial ?_ rfl
  simp only [Try.ntmps6, List.size_toArray, List.length_cons, List.length_nil, Nat.reduceAdd, Nat.reduceSub, Array.replicate_succ, Array.replicate_zero, List.push_toArray, List.append_toArray, List.nil_append, List.cons_append]
  have r0 := chain_at [Obj.cells #[.slice A l.length c] 22, .cells #[.int .i64 k] 3, .cells #[.bool false] 4] w 0 _ rfl
  have r1 := chain_at [Obj.cells #[.slice A l.length c] 22, .cells #[.int .i64 k] 3, .cells #[.bool false] 4] w 1 _ rfl
  have r2 := chain_at [Obj.cells #[.slice A l.length c] 22, .cells #[.int .i64 k] 3, .cells #[.bool false] 4] w 2 _ rfl
  have hB := chain_below [Obj.cells #[.slice A l.length c] 22, .cells #[.int .i64 k] 3, .cells #[.bool false] 4] w
  have hz := chain_size [Obj.cells #[.slice A l.length c] 22, .cells #[.int .i64 k] 3, .cells #[.bool false] 4] w
  rw [Nat.add_zero] at r0
  simp only [List.foldl_cons, List.foldl_nil, List.length_cons, List.length_nil, Nat.reduceAdd] at r0 r1 r2 hB hz
  gi_wp2_with fail
  generalize ((w.alloc (.cells #[.slice A l.length c] 22)).alloc (.cells #[.int .i64 k] 3)).alloc (.cells #[.bool false] 4) = w1 at r0 r1 r2 hB hz ⊢
  have hA1 := (hA.below hB (Nat.le_refl _)).mono hB.size
  refine ⟨trivial, (callsIn_wide.2 (winsPub_any A l c k w1 hA1 hc (by omega))).mono ?_⟩
  rintro e w3 ⟨A2, c2, w2, rfl, hc2, hR2, hB2, hw3⟩
  have q0 := chain_at [Obj.cells #[.slice A2 l.length c2] 22, .cells #[.int .i64 k] 3] w2 0 _ rfl
  have q1 := chain_at [Obj.cells #[.slice A2 l.length c2] 22, .cells #[.int .i64 k] 3] w2 1 _ rfl
  have qB := chain_below [Obj.cells #[.slice A2 l.length c2] 22, .cells #[.int .i64 k] 3] w2
  have qz := chain_size [Obj.cells #[.slice A2 l.length c2] 22, .cells #[.int .i64 k] 3] w2
  rw [Nat.add_zero] at q0
  simp only [List.foldl_cons, List.foldl_nil, List.length_cons, List.length_nil, Nat.reduceAdd] at q0 q1 qB qz
  rw [← hw3] at q0 q1 qB qz
  have hnil := fun W : World => func_nil 55 ⟨w2.heap.size + 1, 0, none⟩ ⟨w2.heap.size, 0, none⟩ W
  have hz2 := hB2.size
  have s0 : w3.heap[w.heap.size]? = _ := (qB.block _ (by omega)).trans ((hB2.block _ (by omega)).trans r0)
  have s1 : w3.heap[w.heap.size + 1]? = _ := (qB.block _ (by omega)).trans ((hB2.block _ (by omega)).trans r1)
  have s2 : w3.heap[w.heap.size + 2]? = _ := (qB.block _ (by omega)).trans ((hB2.block _ (by omega)).trans r2)
  have hB3 := hB.trans ((hB2.trans (qB.mono hB2.size)).mono hB.size)
  have hR3 := hR2.step qB
  clear hw3 qB hB2 hB r0 r1 r2 hR2 hA1
  generalize w2.heap.size = g at q0 q1 qz hnil hz2 ⊢
  have c0 : w3.cell? ⟨w.heap.size, 0, none⟩ = some (.slice A l.length c) := cell_of_row _ _ _ _ _ _ s0
  have c1 : w3.cell? ⟨w.heap.size + 1, 0, none⟩ = some (.int .i64 k) := cell_of_row _ _ _ _ _ _ s1
  have c0a : ∀ o : Obj, (w3.alloc o).cell? ⟨w.heap.size, 0, none⟩ = some (.slice A l.length c) := fun o => cell_of_row _ _ _ _ _ _ ((Below.heap_alloc _ _ _ (by omega)).trans s0)
  have c1a : ∀ o : Obj, (w3.alloc o).cell? ⟨w.heap.size + 1, 0, none⟩ = some (.int .i64 k) := fun o => cell_of_row _ _ _ _ _ _ ((Below.heap_alloc _ _ _ (by omega)).trans s1)
  have hsw : IntKind.i64.wrap (s : Int) = (s : Int) := IntWalk.i64_in _ (by omega)
  gi_wp2_with fail
  have m2 : ((w3.alloc (.cells #[.int .i64 s] 3)).alloc (.cells #[.int .i64 0] 3)).heap[g + 2]? = some (.cells #[.int .i64 s] 3 (0, 0)) := by
    rw [Below.heap_alloc _ _ _ (by simp; omega), ← qz]
    exact World.alloc_heap_new _ _
  have m3 : ((w3.alloc (.cells #[.int .i64 s] 3)).alloc (.cells #[.int .i64 0] 3)).heap[g + 2 + 1]? = some (.cells #[.int .i64 0] 3 (0, 0)) := by
    have h := World.alloc_heap_new (w3.alloc (.cells #[.int .i64 s] 3)) (Obj.cells #[.int .i64 0] 3)
    simp only [World.size_alloc, qz] at h
    exact h
  have mB : Below w3.heap.size w3 ((w3.alloc (.cells #[.int .i64 s] 3)).alloc (.cells #[.int .i64 0] 3)) := ((Below.refl _ w3).alloc (Nat.le_refl _) _).alloc (by simp) _
  have mz : ((w3.alloc (.cells #[.int .i64 s] 3)).alloc (.cells #[.int .i64 0] 3)).heap.size = g + 4 := by simp [qz]
  generalize (w3.alloc (.cells #[.int .i64 s] 3)).alloc (.cells #[.int .i64 0] 3) = w4 at m2 m3 mB mz ⊢
  have t0 : w4.heap[w.heap.size]? = _ := (mB.block _ (by omega)).trans s0
  have t1 : w4.heap[w.heap.size + 1]? = _ := (mB.block _ (by omega)).trans s1
  have t2 : w4.heap[w.heap.size + 2]? = _ := (mB.block _ (by omega)).trans s2
  have u0 : w4.heap[g]? = _ := (mB.block _ (by omega)).trans q0
  have u1 : w4.heap[g + 1]? = _ := (mB.block _ (by omega)).trans q1
  have hR4 := hR3.step mB
  have hB4 := hB3.trans (mB.mono hB3.size)
  have hblk := blkR_lt hR3
  have hgn : w.heap.size + 3 ≤ g := by omega
  clear c0 c1 c0a c1a s0 s1 s2 q0 q1 mB hB3 hR3 hnil
  refine wpIn_rangeK (α := Nat × Nat) rfl (by omega) (gf := 55) (lb := #[.pointer (some ⟨g + 1, 0, none⟩), .pointer (some ⟨g, 0, none⟩)]) rfl trivial
    (enters_of Try.func55 (by kernel_rfl) rfl) (L := []) (K := (g + 1) :: g :: blkR A2 l) (by intro j hj; simp at hj)
    (by
      intro j hj
      rcases List.mem_cons.1 hj with rfl | hj
      · omega
      · rcases List.mem_cons.1 hj with rfl | hj
        · omega
        · have := hblk j hj; omega)
    (windows_seq 4 (g + 1) g A2 l c2 k w4 hR4 hc2 (by omega) (by omega) (by omega) u1 u0) (fun _ => rfl)
    (fun X pre W => W.heap[w.heap.size + 2]? = some (.cells #[.bool false] 4 (0, 0)) ∧ W.heap[g + 2 + 1]? = some (.cells #[.int .i64 0] 3 (0, 0)) ∧ Below w.heap.size w W)
    (fun X cd pre W => False)
    ?hI ?hIx (fun X hX => ⟨t2, m3, hB4⟩)
    (fun x => { tmps := #[.slice A l.length c, .int .i64 k, .int .u8 s, .pointer (some ⟨w.heap.size, 0, none⟩), .pointer (some ⟨w.heap.size + 1, 0, none⟩), undef, .pointer (some ⟨w.heap.size + 1 + 1, 0, none⟩), .func (.func 55) #[] #[.pointer (some ⟨g + 1, 0, none⟩), .pointer (some ⟨g, 0, none⟩)], .pointer (some ⟨g + 2, 0, none⟩), .int .i64 0, .pointer (some ⟨g + 2 + 1, 0, none⟩), .int .i64 (x.1 : Nat), .int .u32 (x.2 : Nat), .slice A l.length c, .int .i64 l.length, .bool false, undef, .slice A l.length c, .int .i64 k, .func (.func 55) #[] #[.pointer (some ⟨g + 1, 0, none⟩), .pointer (some ⟨g, 0, none⟩)], .func (.func 55) #[] #[.pointer (some ⟨g + 1, 0, none⟩), .pointer (some ⟨g, 0, none⟩)], .bool false, .int .u8 s, .int .i64 s, .int .i64 k, .bool true, .bool true, .int .i64 k, .slice A l.length c, .int .i64 l.length, .bool (decide (k ≤ (l.length : Int))), .bool (decide (k ≤ (l.length : Int))), undef, undef, undef, undef, undef, undef, undef, .func (.func 55) #[] #[.pointer (some ⟨g + 1, 0, none⟩), .pointer (some ⟨g, 0, none⟩)], .int .i64 (x.1 : Nat), .int .u32 (x.2 : Nat), undef, undef, undef, undef, undef, undef, undef, undef, undef, undef, undef, undef, undef, undef, undef, undef, undef, undef, undef, undef, undef, undef, undef, undef, undef, undef, undef, undef, undef, undef, undef, undef, undef, undef, undef, undef, undef, undef], defers := [] }) ?assign ?body ?done ?stop
  case hI =>
    rintro X hX pre A3 B3 row ⟨h3, h5, h6⟩ hgr hr
    have ne : ∀ j, row = some j → w4.heap.size ≤ j := fun j e => by
      rcases hr j e with h | h
      · simp at h
      · exact h.1
    refine ⟨(hgr.block _ (Array.getElem?_eq_some_iff.1 h3).1 (fun e => ?_)).trans h3, (hgr.block _ (Array.getElem?_eq_some_iff.1 h5).1 (fun e => ?_)).trans h5, h6.grown hgr h6.size (fun r e => ?_)⟩
    all_goals
      first
        | (have := ne _ e.symm; omega)
        | (have := ne _ e; omega)
  case hIx =>
    rintro X cd hX pre A3 B3 row h hgr hr
    exact h
  case assign =>
    intro lp x W KK hK
    gi_wp2
    exact hK
  case body =>
    rintro X lp pre x W hX hXW hJ hpre
    have h := hpre.length_le
    rw [hwl.out] at h
    simp at h
  case stop =>
    rintro X D cd pre W hX hD hDX hS h hK
    exact h.elim
  case done =>
    rintro X D xs W hX hD hDX hS ⟨h3, h5, h6⟩ hK
    have kz : W.heap[w.heap.size + 1 + 1]? = some (.cells #[.bool false] 4 (0, 0)) := h3
    have H5 := hide h5
    have HK := hide (And.intro kz (And.intro hK h6))
    have c3 : W.cell? ⟨w.heap.size + 1 + 1, 0, none⟩ = some (.bool false) := cell_of_row _ _ _ _ _ _ kz
    have z3 : W.frozen? ⟨w.heap.size + 1 + 1, 0, none⟩ = false := frozen_of_row _ _ _ _ _ kz
    have c5 : W.cell? ⟨g + 2 + 1, 0, none⟩ = some (.int .i64 0) := cell_of_row _ _ _ _ _ _ h5
    clear hS
    clear kz hK h6 h3 h5
    gi_wp2_with fail
    refine ⟨trivial, (callsIn_wide.2 (rollAwake_any _)).mono ?_⟩
    rintro e W5 ⟨rfl, hB5⟩
    have k3 : W5.heap[w.heap.size + 1 + 1]? = some (.cells #[.bool false] 4 (0, 0)) := (hB5.block _ (Array.getElem?_eq_some_iff.1 HK.out.1).1).trans HK.out.1
    have kD : W5.heap[D]? = some (.deferred (some [])) := (hB5.block _ (Array.getElem?_eq_some_iff.1 HK.out.2.1).1).trans HK.out.2.1
    have kB : Below w.heap.size w W5 := HK.out.2.2.trans (hB5.mono HK.out.2.2.size)
    have c3 : W5.cell? ⟨w.heap.size + 1 + 1, 0, none⟩ = some (.bool false) := cell_of_row _ _ _ _ _ _ k3
    have z3 : W5.frozen? ⟨w.heap.size + 1 + 1, 0, none⟩ = false := frozen_of_row _ _ _ _ _ k3
    have k5 := (hB5.block _ (Array.getElem?_eq_some_iff.1 H5.out).1).trans H5.out
    have c5 := cell_of_row _ _ 0 _ _ _ k5
    simp only [List.getElem?_toArray, List.getElem?_cons_zero] at c5
    have HF := hide (And.intro k3 (And.intro kD kB))
    clear hB5 k3 kD kB k5
    gi_wp2_with fail
    obtain ⟨k3, kD, kB⟩ := HF.out
    have m3 : (W5.setCell ⟨w.heap.size + 1 + 1, 0, none⟩ (.bool true)).heap[w.heap.size + 1 + 1]? = some (.cells #[.bool true] 4 (0, 0)) := heap_setCell_same _ _ _ _ _ _ k3
    have mD : (W5.setCell ⟨w.heap.size + 1 + 1, 0, none⟩ (.bool true)).heap[D]? = some (.deferred (some [])) := (heap_setCell_other _ _ _ _ (by simp; omega)).trans kD
    have mB : Below w.heap.size w (W5.setCell ⟨w.heap.size + 1 + 1, 0, none⟩ (.bool true)) := kB.setCell (p := ⟨w.heap.size + 1 + 1, 0, none⟩) (by simp; omega) _
    refine ⟨by simp, .inl ⟨_, _, rfl, run_takeDeferred mD, ?_⟩⟩
    have y : ((W5.setCell ⟨w.heap.size + 1 + 1, 0, none⟩ (.bool true)).putObj D (.deferred none)).cell? ⟨w.heap.size + 1 + 1, 0, none⟩ = some (.bool true) := cell_of_row _ _ _ _ _ _ ((World.putObj_heap_other (by omega)).trans m3)
    refine ⟨.bool true, by simp [results, Try.results6, go_sem, y], rfl, ?_⟩
    exact mB.grown (grownBy_putObj' _ D (.deferred none)) mB.size (fun r e => by cases e; omega)

set_option maxHeartbeats 2000000 in
theorem rollWindows_big (A : Option Addr) (l : List UInt8) (c : Nat) (k : Int) (s : Nat) (w : World) (h1 : 200 < l.length) :
    CallsIn Fence.wide 5 Try.prog 6 #[.slice A l.length c, .int .i64 k, .int .u8 s] w fun e w' => e = .returned (.bool true) ∧ Below w.heap.size w w' := by
  have h200 : (200 : Int) < l.length := by omega
  refine callsIn_of_wp_marks Try.func6 rfl trivial ?_ rfl
  simp only [Try.ntmps6, List.size_toArray, List.length_cons, List.length_nil, Nat.reduceAdd, Nat.reduceSub, Array.replicate_succ, Array.replicate_zero, List.push_toArray, List.append_toArray, List.nil_append, List.cons_append]
  have r0 := chain_at [Obj.cells #[.slice A l.length c] 22, .cells #[.int .i64 k] 3, .cells #[.bool false] 4] w 0 _ rfl
  have r2 := chain_at [Obj.cells #[.slice A l.length c] 22, .cells #[.int .i64 k] 3, .cells #[.bool false] 4] w 2 _ rfl
  have hB := chain_below [Obj.cells #[.slice A l.length c] 22, .cells #[.int .i64 k] 3, .cells #[.bool false] 4] w
  have hz := chain_size [Obj.cells #[.slice A l.length c] 22, .cells #[.int .i64 k] 3, .cells #[.bool false] 4] w
  rw [Nat.add_zero] at r0
  simp only [List.foldl_cons, List.foldl_nil, List.length_cons, List.length_nil, Nat.reduceAdd] at r0 r2 hB hz
  gi_wp2_with fail
  generalize ((w.alloc (.cells #[.slice A l.length c] 22)).alloc (.cells #[.int .i64 k] 3)).alloc (.cells #[.bool false] 4) = w1 at r0 r2 hB hz ⊢
  refine ⟨trivial, (callsIn_wide.2 (rollAwake_any _)).mono ?_⟩
  rintro e W5 ⟨rfl, hB5⟩
  have k3 : W5.heap[w.heap.size + 1 + 1]? = some (.cells #[.bool false] 4 (0, 0)) := (hB5.block _ (Array.getElem?_eq_some_iff.1 r2).1).trans r2
  have kB : Below w.heap.size w W5 := hB.trans (hB5.mono hB.size)
  have c3 : W5.cell? ⟨w.heap.size + 1 + 1, 0, none⟩ = some (.bool false) := cell_of_row _ _ _ _ _ _ k3
  have z3 : W5.frozen? ⟨w.heap.size + 1 + 1, 0, none⟩ = false := frozen_of_row _ _ _ _ _ k3
  have HF := hide (And.intro k3 kB)
  clear hB5 k3 kB hB r0 r2
  gi_wp2_with fail
  obtain ⟨k3, kB⟩ := HF.out
  have m3 : (W5.setCell ⟨w.heap.size + 1 + 1, 0, none⟩ (.bool true)).heap[w.heap.size + 1 + 1]? = some (.cells #[.bool true] 4 (0, 0)) := heap_setCell_same _ _ _ _ _ _ k3
  have mB : Below w.heap.size w (W5.setCell ⟨w.heap.size + 1 + 1, 0, none⟩ (.bool true)) := kB.setCell (p := ⟨w.heap.size + 1 + 1, 0, none⟩) (by simp; omega) _
  have y : (W5.setCell ⟨w.heap.size + 1 + 1, 0, none⟩ (.bool true)).cell? ⟨w.heap.size + 1 + 1, 0, none⟩ = some (.bool true) := cell_of_row _ _ _ _ _ _ m3
  refine ⟨.bool true, by simp [results, Try.results6, go_sem, y], rfl, mB⟩

theorem rollWindows_law (A : Option Addr) (l : List UInt8) (c : Nat) (k : Int) (s : Nat) (w : World) (hA : RdB w w.heap.size A l) (hc : Caps A l.length c) (hs : s < 256) :
    Calls Try.prog 6 #[.slice A l.length c, .int .i64 k, .int .u8 s] w fun e w' => e = .returned (.bool true) ∧ Below w.heap.size w w' := by
  refine (callsIn_wide (n := 5)).1 ?_
  by_cases h1 : 200 < l.length
  · exact rollWindows_big A l c k s w h1
  by_cases k1 : k < 1
  · exact rollWindows_low A l c k s w hA hc (by omega) hs k1
  by_cases k2 : (l.length : Int) < k
  · exact rollWindows_high A l c k s w hA hc (by omega) hs ⟨by omega, k2⟩
  obtain ⟨n, rfl⟩ : ∃ n : Nat, k = n := ⟨k.toNat, by omega⟩
  cases A with
  | none => have := hA.of_none; subst this; simp at k2; omega
  | some ad =>
    by_cases h : s < l.length - n + 1
    · exact rollWindows_some ad l c n s w hA hc (by omega) (by omega) (by omega) hs h
    · exact rollWindows_all ad l c n s w hA hc (by omega) (by omega) (by omega) hs h
end Go.Proofs.Ytklficpogeidlaa
