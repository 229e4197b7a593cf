/-
  The law's do: a call, by the program.
-/
import Derived.Test.YtfknfpngcnianaaLkRefOut
namespace Go.Proofs.Ytfknfpngcnianaa
open Go.RowKit
set_option maxRecDepth 100000

theorem QTo.back {w w1 w2 : World} {g o : Nat} {C : Array Value} {q : Way} (hg : w.heap[g]? = some (.cells C 56 (0, 0))) (hB : Below w.heap.size w w1) (h : QTo w1 g o C q w2) : QTo w g o C q w2 := by
  obtain ⟨D, h1, h2, h3, h4⟩ := h
  exact ⟨D, ((To.start hg).below hB).call h1, h2, h3, h4⟩
theorem RdB.to {w W : World} {g : Nat} {D : Array Value} {A : Option Addr} {l : List UInt8} (h : RdB w w.heap.size A l) (hne : ∀ ad, A = some ad → ad.block ≠ g) (hT : To w g D W) : RdB W W.heap.size A l := fun k x hx => by
  obtain ⟨ad, e, hb, hc⟩ := h k x hx
  refine ⟨ad, e, Nat.lt_of_lt_of_le hb hT.2.size, ?_⟩
  rw [← hc]
  exact World.cell?_of_block (hT.2.block _ (by rw [add_block]; exact hb) (fun e2 => hne ad e (by injection e2 with e2; rw [add_block] at e2; exact e2)))
set_option maxHeartbeats 4000000 in
theorem doDeliver_none (wy i at_ : Int) (mask : Nat) (b : List UInt8) (P : Value)  (w : World) (H : ∀ W, Below w.heap.size w W → At P wy i none W) :
    Calls Try.prog 8 #[P, .agg (actC 1 wy i at_ mask b)] w fun e w' => e = .returned (.tuple #[.string ⟨#[]⟩, .bool false]) ∧ Below w.heap.size w w' := by
  have hB := (Below.refl _ w).alloc (Nat.le_refl _) (.cells (actC 1 wy i at_ mask b) 34)
  have r := World.alloc_heap_new w (.cells (actC 1 wy i at_ mask b) 34)
  have e0 := cell_of_row _ _ 0 _ _ _ r
  have e1 := cell_of_row _ _ 1 _ _ _ r
  have e2 := cell_of_row _ _ 2 _ _ _ r
  have e3 := cell_of_row _ _ 3 _ _ _ r
  have e4 := cell_of_row _ _ 4 _ _ _ r
  have e5 := cell_of_row _ _ 5 _ _ _ r
  have HC := hide (deliver_none P wy i _ (H _ hB))
  have HB := hide hB
  clear H hB
  have hcn := fun W => run_convert_bytes_nil (P := Try.prog) W 41 5 Try.underlying41 Try.underlying5 0 0 9 Try.underlying9
  unfold actC at *
  clear r
  go_enter Try.func8, Try.ntmps8
  go_wp2_with fail
  refine HC.out.mono ?_
  rintro e w1 ⟨rfl, hw⟩
  have HW := hide hw
  clear hw
  go_wp2_with fail
  exact bodyPost_ret (results_tmp2 rfl _ _ _) rfl ⟨rfl, by rw [HW.out]; exact HB.out⟩

set_option maxHeartbeats 4000000 in
theorem doDrop_none (wy i at_ : Int) (mask : Nat) (b : List UInt8) (P : Value)  (w : World) (H : ∀ W, Below w.heap.size w W → At P wy i none W) :
    Calls Try.prog 8 #[P, .agg (actC 2 wy i at_ mask b)] w fun e w' => e = .returned (.tuple #[.string ⟨#[]⟩, .bool false]) ∧ Below w.heap.size w w' := by
  have hB := (Below.refl _ w).alloc (Nat.le_refl _) (.cells (actC 2 wy i at_ mask b) 34)
  have r := World.alloc_heap_new w (.cells (actC 2 wy i at_ mask b) 34)
  have e0 := cell_of_row _ _ 0 _ _ _ r
  have e1 := cell_of_row _ _ 1 _ _ _ r
  have e2 := cell_of_row _ _ 2 _ _ _ r
  have e3 := cell_of_row _ _ 3 _ _ _ r
  have e4 := cell_of_row _ _ 4 _ _ _ r
  have e5 := cell_of_row _ _ 5 _ _ _ r
  have HC := hide (drop_none P wy i _ (H _ hB))
  have HB := hide hB
  clear H hB
  unfold actC at *
  clear r
  go_enter Try.func8, Try.ntmps8
  go_wp2_with fail
  refine HC.out.mono ?_
  rintro e w1 ⟨rfl, hw⟩
  have HW := hide hw
  clear hw
  go_wp2_with fail
  exact bodyPost_ret (results_tmp2 rfl _ _ _) rfl ⟨rfl, by rw [HW.out]; exact HB.out⟩

set_option maxHeartbeats 4000000 in
theorem doDouble_none (wy i at_ : Int) (mask : Nat) (b : List UInt8) (P : Value)  (w : World) (H : ∀ W, Below w.heap.size w W → At P wy i none W) :
    Calls Try.prog 8 #[P, .agg (actC 3 wy i at_ mask b)] w fun e w' => e = .returned (.tuple #[.string ⟨#[]⟩, .bool false]) ∧ Below w.heap.size w w' := by
  have hB := (Below.refl _ w).alloc (Nat.le_refl _) (.cells (actC 3 wy i at_ mask b) 34)
  have r := World.alloc_heap_new w (.cells (actC 3 wy i at_ mask b) 34)
  have e0 := cell_of_row _ _ 0 _ _ _ r
  have e1 := cell_of_row _ _ 1 _ _ _ r
  have e2 := cell_of_row _ _ 2 _ _ _ r
  have e3 := cell_of_row _ _ 3 _ _ _ r
  have e4 := cell_of_row _ _ 4 _ _ _ r
  have e5 := cell_of_row _ _ 5 _ _ _ r
  have HC := hide (double_none P wy i _ (H _ hB))
  have HB := hide hB
  clear H hB
  unfold actC at *
  clear r
  go_enter Try.func8, Try.ntmps8
  go_wp2_with fail
  refine HC.out.mono ?_
  rintro e w1 ⟨rfl, hw⟩
  have HW := hide hw
  clear hw
  go_wp2_with fail
  exact bodyPost_ret (results_tmp2 rfl _ _ _) rfl ⟨rfl, by rw [HW.out]; exact HB.out⟩

set_option maxHeartbeats 4000000 in
theorem doTurn_none (kd : Int) (d0 : kd ≠ 0) (d1 : kd ≠ 1) (d2 : kd ≠ 2) (d3 : kd ≠ 3) (wy i at_ : Int) (mask : Nat) (b : List UInt8) (P : Value)  (w : World) (H : ∀ W, Below w.heap.size w W → At P wy i none W) :
    Calls Try.prog 8 #[P, .agg (actC kd wy i at_ mask b)] w fun e w' => e = .returned (.tuple #[.string ⟨#[]⟩, .bool false]) ∧ Below w.heap.size w w' := by
  have hB := (Below.refl _ w).alloc (Nat.le_refl _) (.cells (actC kd wy i at_ mask b) 34)
  have r := World.alloc_heap_new w (.cells (actC kd wy i at_ mask b) 34)
  have e0 := cell_of_row _ _ 0 _ _ _ r
  have e1 := cell_of_row _ _ 1 _ _ _ r
  have e2 := cell_of_row _ _ 2 _ _ _ r
  have e3 := cell_of_row _ _ 3 _ _ _ r
  have e4 := cell_of_row _ _ 4 _ _ _ r
  have e5 := cell_of_row _ _ 5 _ _ _ r
  have HC := hide (turn_none P wy i at_ mask _ (H _ hB))
  have HB := hide hB
  clear H hB
  have tk0 : (kd == 0) = false := by simpa using d0
  have tk1 : (kd == 1) = false := by simpa using d1
  have tk2 : (kd == 2) = false := by simpa using d2
  have tk3 : (kd == 3) = false := by simpa using d3
  clear d0 d1 d2 d3
  unfold actC at *
  clear r
  go_enter Try.func8, Try.ntmps8
  go_wp2_with fail
  refine HC.out.mono ?_
  rintro e w1 ⟨rfl, hw⟩
  have HW := hide hw
  clear hw
  go_wp2_with fail
  exact bodyPost_ret (results_tmp2 rfl _ _ _) rfl ⟨rfl, by rw [HW.out]; exact HB.out⟩

set_option maxHeartbeats 4000000 in
theorem doDrop_in (wy at_ : Int) (mask : Nat) (b : List UInt8) (P : Value) (j g o : Nat) (C : Array Value) (q : Way) (w : World) (H : ∀ W, Below w.heap.size w W → At P wy j (some ⟨g, o, none⟩) W) (h : In w g o C q) (hi : j < q.l.length) (hl : q.lost ≤ 1000000) :
    Calls Try.prog 8 #[P, .agg (actC 2 wy j at_ mask b)] w fun e w' => e = .returned (.tuple #[.string ⟨#[]⟩, .bool true]) ∧ QTo w g o C (q.lose j) w' := by
  have hB := (Below.refl _ w).alloc (Nat.le_refl _) (.cells (actC 2 wy j at_ mask b) 34)
  have r := World.alloc_heap_new w (.cells (actC 2 wy j at_ mask b) 34)
  have e0 := cell_of_row _ _ 0 _ _ _ r
  have e1 := cell_of_row _ _ 1 _ _ _ r
  have e2 := cell_of_row _ _ 2 _ _ _ r
  have e3 := cell_of_row _ _ 3 _ _ _ r
  have e4 := cell_of_row _ _ 4 _ _ _ r
  have e5 := cell_of_row _ _ 5 _ _ _ r
  have HC := hide (drop_in P wy j g o C q _ (H _ hB) (h.alloc hB) hi hl)
  have HB := hide (And.intro hB h.row)
  clear H hB h hi hl
  unfold actC at *
  clear r
  go_enter Try.func8, Try.ntmps8
  go_wp2_with fail
  refine HC.out.mono ?_
  rintro e w1 ⟨rfl, hw⟩
  have HW := hide hw
  clear hw
  go_wp2_with fail
  exact bodyPost_ret (results_tmp2 rfl _ _ _) rfl ⟨rfl, QTo.back HB.out.2 HB.out.1 HW.out⟩

set_option maxHeartbeats 4000000 in
theorem doDouble_in (wy at_ : Int) (mask : Nat) (b : List UInt8) (P : Value) (j g o : Nat) (C : Array Value) (q : Way) (p : Pk) (w : World) (H : ∀ W, Below w.heap.size w W → At P wy j (some ⟨g, o, none⟩) W) (h : In w g o C q) (hi : j < q.l.length) (hp : q.l[j]? = some p) (hl : q.lost ≤ 1000000) :
    Calls Try.prog 8 #[P, .agg (actC 3 wy j at_ mask b)] w fun e w' => e = .returned (.tuple #[.string ⟨#[]⟩, .bool true]) ∧ QTo w g o C (q.put p) w' := by
  have hB := (Below.refl _ w).alloc (Nat.le_refl _) (.cells (actC 3 wy j at_ mask b) 34)
  have r := World.alloc_heap_new w (.cells (actC 3 wy j at_ mask b) 34)
  have e0 := cell_of_row _ _ 0 _ _ _ r
  have e1 := cell_of_row _ _ 1 _ _ _ r
  have e2 := cell_of_row _ _ 2 _ _ _ r
  have e3 := cell_of_row _ _ 3 _ _ _ r
  have e4 := cell_of_row _ _ 4 _ _ _ r
  have e5 := cell_of_row _ _ 5 _ _ _ r
  have HC := hide (double_in P wy j g o C q p _ (H _ hB) (h.alloc hB) hi hp hl)
  have HB := hide (And.intro hB h.row)
  clear H hB h hi hp hl
  unfold actC at *
  clear r
  go_enter Try.func8, Try.ntmps8
  go_wp2_with fail
  refine HC.out.mono ?_
  rintro e w1 ⟨rfl, hw⟩
  have HW := hide hw
  clear hw
  go_wp2_with fail
  exact bodyPost_ret (results_tmp2 rfl _ _ _) rfl ⟨rfl, QTo.back HB.out.2 HB.out.1 HW.out⟩

set_option maxHeartbeats 4000000 in
theorem doTurn_in (kd : Int) (d0 : kd ≠ 0) (d1 : kd ≠ 1) (d2 : kd ≠ 2) (d3 : kd ≠ 3) (wy at_ : Int) (mask : Nat) (b : List UInt8) (P : Value) (j g o : Nat) (C : Array Value) (q : Way) (p : Pk) (w : World) (H : ∀ W, Below w.heap.size w W → At P wy j (some ⟨g, o, none⟩) W) (h : In w g o C q) (hi : j < q.l.length) (hp : q.l[j]? = some p) (ht : p.t = false) (hl : p.b.length ≤ 1000) (ha1 : -9223372036854775808 ≤ at_) (ha2 : at_ ≤ 9223372036854775807) (hm : mask < 4294967296) :
    Calls Try.prog 8 #[P, .agg (actC kd wy j at_ mask b)] w fun e w' => e = .returned (.tuple #[.string ⟨#[]⟩, .bool true]) ∧ QTo w g o C ({ q with l := q.l.set j ⟨turnL p.b at_ mask, true⟩ }) w' := by
  have hB := (Below.refl _ w).alloc (Nat.le_refl _) (.cells (actC kd wy j at_ mask b) 34)
  have r := World.alloc_heap_new w (.cells (actC kd wy j at_ mask b) 34)
  have e0 := cell_of_row _ _ 0 _ _ _ r
  have e1 := cell_of_row _ _ 1 _ _ _ r
  have e2 := cell_of_row _ _ 2 _ _ _ r
  have e3 := cell_of_row _ _ 3 _ _ _ r
  have e4 := cell_of_row _ _ 4 _ _ _ r
  have e5 := cell_of_row _ _ 5 _ _ _ r
  have HC := hide (turn_in P wy j g o at_ mask C q p _ (H _ hB) (h.alloc hB) hi hp ht hl ha1 ha2 hm)
  have HB := hide (And.intro hB h.row)
  clear H hB h hi hp ht hl ha1 ha2 hm
  have tk0 : (kd == 0) = false := by simpa using d0
  have tk1 : (kd == 1) = false := by simpa using d1
  have tk2 : (kd == 2) = false := by simpa using d2
  have tk3 : (kd == 3) = false := by simpa using d3
  clear d0 d1 d2 d3
  unfold actC at *
  clear r
  go_enter Try.func8, Try.ntmps8
  go_wp2_with fail
  refine HC.out.mono ?_
  rintro e w1 ⟨rfl, hw⟩
  have HW := hide hw
  clear hw
  go_wp2_with fail
  exact bodyPost_ret (results_tmp2 rfl _ _ _) rfl ⟨rfl, QTo.back HB.out.2 HB.out.1 HW.out⟩

set_option maxHeartbeats 4000000 in
theorem doTurn_twice (kd : Int) (d0 : kd ≠ 0) (d1 : kd ≠ 1) (d2 : kd ≠ 2) (d3 : kd ≠ 3) (wy at_ : Int) (mask : Nat) (b : List UInt8) (P : Value) (j g o : Nat) (C : Array Value) (q : Way) (w : World) (H : ∀ W, Below w.heap.size w W → At P wy j (some ⟨g, o, none⟩) W) (h : In w g o C q) (hi : j < q.l.length) (ht : q.trn j = true) :
    Calls Try.prog 8 #[P, .agg (actC kd wy j at_ mask b)] w fun e w' => e = .returned (.tuple #[.string ⟨#[]⟩, .bool false]) ∧ Below w.heap.size w w' := by
  have hB := (Below.refl _ w).alloc (Nat.le_refl _) (.cells (actC kd wy j at_ mask b) 34)
  have r := World.alloc_heap_new w (.cells (actC kd wy j at_ mask b) 34)
  have e0 := cell_of_row _ _ 0 _ _ _ r
  have e1 := cell_of_row _ _ 1 _ _ _ r
  have e2 := cell_of_row _ _ 2 _ _ _ r
  have e3 := cell_of_row _ _ 3 _ _ _ r
  have e4 := cell_of_row _ _ 4 _ _ _ r
  have e5 := cell_of_row _ _ 5 _ _ _ r
  have HC := hide (turn_twice P wy j g o at_ mask C q _ (H _ hB) (h.alloc hB) hi ht)
  have HB := hide hB
  clear H hB h hi ht
  have tk0 : (kd == 0) = false := by simpa using d0
  have tk1 : (kd == 1) = false := by simpa using d1
  have tk2 : (kd == 2) = false := by simpa using d2
  have tk3 : (kd == 3) = false := by simpa using d3
  clear d0 d1 d2 d3
  unfold actC at *
  clear r
  go_enter Try.func8, Try.ntmps8
  go_wp2_with fail
  refine HC.out.mono ?_
  rintro e w1 ⟨rfl, hw⟩
  have HW := hide hw
  clear hw
  go_wp2_with fail
  exact bodyPost_ret (results_tmp2 rfl _ _ _) rfl ⟨rfl, by rw [HW.out]; exact HB.out⟩
set_option maxHeartbeats 4000000 in
theorem doDeliver_in (wy at_ : Int) (mask : Nat) (b : List UInt8) (P : Value) (j g o : Nat) (C : Array Value) (q : Way) (p : Pk) (w : World) (H : ∀ W, Below w.heap.size w W → At P wy j (some ⟨g, o, none⟩) W) (h : In w g o C q) (hi : j < q.l.length) (hp : q.l[j]? = some p) :
    Calls Try.prog 8 #[P, .agg (actC 1 wy j at_ mask b)] w fun e w' => e = .returned (.tuple #[.string (ofL p.b), .bool true]) ∧ QTo w g o C (q.took j) w' := by
  have hB := (Below.refl _ w).alloc (Nat.le_refl _) (.cells (actC 1 wy j at_ mask b) 34)
  have r := World.alloc_heap_new w (.cells (actC 1 wy j at_ mask b) 34)
  have e0 := cell_of_row _ _ 0 _ _ _ r
  have e1 := cell_of_row _ _ 1 _ _ _ r
  have e2 := cell_of_row _ _ 2 _ _ _ r
  have e3 := cell_of_row _ _ 3 _ _ _ r
  have e4 := cell_of_row _ _ 4 _ _ _ r
  have e5 := cell_of_row _ _ 5 _ _ _ r
  have HC := hide (deliver_in P wy j g o C q p _ (H _ hB) (h.alloc hB) hi hp)
  have HB := hide (And.intro hB h.row)
  clear H hB h hi hp
  unfold actC at *
  clear r
  go_enter Try.func8, Try.ntmps8
  go_wp2_with fail
  refine HC.out.mono ?_
  rintro e w1 ⟨A1, c1, rfl, hR, hw⟩
  have hcv := conv_any hR c1
  have HW := hide hw
  clear hw hR
  go_wp2_with fail
  exact bodyPost_ret (results_tmp2 rfl _ _ _) rfl ⟨rfl, QTo.back HB.out.2 HB.out.1 HW.out⟩
set_option maxHeartbeats 4000000 in
theorem doSend_none (wy i at_ : Int) (mask : Nat) (b : List UInt8) (P : Value) (w : World) (H : On P wy none) (h0 : wy ≠ 0) (h1 : wy ≠ 1) :
    Calls Try.prog 8 #[P, .agg (actC 0 wy i at_ mask b)] w fun e w' => e = .returned (.tuple #[.string ⟨#[]⟩, .bool false]) ∧ Below w.heap.size w w' := by
  have hB := (Below.refl _ w).alloc (Nat.le_refl _) (.cells (actC 0 wy i at_ mask b) 34)
  have r := World.alloc_heap_new w (.cells (actC 0 wy i at_ mask b) 34)
  have e0 := cell_of_row _ _ 0 _ _ _ r
  have e1 := cell_of_row _ _ 1 _ _ _ r
  have e2 := cell_of_row _ _ 2 _ _ _ r
  have e3 := cell_of_row _ _ 3 _ _ _ r
  have e4 := cell_of_row _ _ 4 _ _ _ r
  have e5 := cell_of_row _ _ 5 _ _ _ r
  have t0 : (wy == 0) = false := by simpa using h0
  have t1 : (wy == 1) = false := by simpa using h1
  have hcv := fun W : World => Lib.run_convert_string_bytes (P := Try.prog) W 9 41 5 (ofL b) Try.underlying9 Try.underlying41 Try.underlying5
  have HC := hide (fun (V : Value) (W : World) => send_none P V wy W H)
  unfold actC at *
  have hm := made_bytes (w.alloc (.cells #[.int .i64 0, .int .i64 wy, .int .i64 i, .int .i64 at_, .int .u32 mask, .string (ofL b)] 34)) (ofL b)
  have hB2 := hB.trans (hm.2.mono hB.size)
  have r2 := (hm.2.block _ (Array.getElem?_eq_some_iff.1 r).1).trans r
  clear H h0 h1 hm hB r
  have hcv1 := hcv (w.alloc (.cells #[.int .i64 0, .int .i64 wy, .int .i64 i, .int .i64 at_, .int .u32 mask, .string (ofL b)] 34))
  clear hcv
  generalize hSS : ofL b = S at *
  clear hSS
  go_enter Try.func8, Try.ntmps8
  go_wp2_with fail
  refine (HC.out _ _).mono ?_
  rintro e w1 ⟨rfl, rfl⟩
  clear hcv1 e0 e1 e2 e3 e4 e5
  generalize Lib.bytesWorld (w.alloc (.cells #[.int .i64 0, .int .i64 wy, .int .i64 i, .int .i64 at_, .int .u32 mask, .string S] 34)) 5 S = U at hB2 r2 ⊢
  have e1 := cell_of_row _ _ 1 _ _ _ r2
  go_wp2_with fail
  go_quiet (fail)
  rename_i nq
  have HB := hide (below_drewN hB2 nq)
  go_wp2_with fail
  exact bodyPost_ret (results_tmp2 rfl _ _ _) rfl ⟨rfl, HB.out⟩
set_option maxHeartbeats 4000000 in
theorem doSend_in (k : Nat) (hk : k < 2) (i at_ : Int) (mask : Nat) (b : List UInt8) (P : Value) (g o : Nat) (C : Array Value) (q : Way) (w : World) (H : On P k (some ⟨g, o, none⟩)) (h : In w g o C q) (hl : q.lost ≤ 1000000) (hs : q.sent ≤ 1000000) :
    Calls Try.prog 8 #[P, .agg (actC 0 k i at_ mask b)] w fun e w' => e = .returned (.tuple #[.string ⟨#[]⟩, .bool true]) ∧ QTo w g o C (({ q with sent := q.sent + 1 } : Way).put ⟨b, false⟩) w' := by
  have hB := (Below.refl _ w).alloc (Nat.le_refl _) (.cells (actC 0 k i at_ mask b) 34)
  have r := World.alloc_heap_new w (.cells (actC 0 k i at_ mask b) 34)
  have e0 := cell_of_row _ _ 0 _ _ _ r
  have e1 := cell_of_row _ _ 1 _ _ _ r
  have e2 := cell_of_row _ _ 2 _ _ _ r
  have e3 := cell_of_row _ _ 3 _ _ _ r
  have e4 := cell_of_row _ _ 4 _ _ _ r
  have e5 := cell_of_row _ _ 5 _ _ _ r
  have hcv := fun W : World => Lib.run_convert_string_bytes (P := Try.prog) W 9 41 5 (ofL b) Try.underlying9 Try.underlying41 Try.underlying5
  unfold actC at *
  have hgl : g < w.heap.size := (Array.getElem?_eq_some_iff.1 h.row).1
  have hm := made_bytes (w.alloc (.cells #[.int .i64 0, .int .i64 k, .int .i64 i, .int .i64 at_, .int .u32 mask, .string (ofL b)] 34)) (ofL b)
  rw [toL_ofL] at hm
  have hz : (w.alloc (.cells #[.int .i64 0, .int .i64 k, .int .i64 i, .int .i64 at_, .int .u32 mask, .string (ofL b)] 34)).heap.size = w.heap.size + 1 := World.size_alloc _ _
  have hm1 : RdB (Lib.bytesWorld (w.alloc (.cells #[.int .i64 0, .int .i64 k, .int .i64 i, .int .i64 at_, .int .u32 mask, .string (ofL b)] 34)) 5 (ofL b)) (Lib.bytesWorld (w.alloc (.cells #[.int .i64 0, .int .i64 k, .int .i64 i, .int .i64 at_, .int .u32 mask, .string (ofL b)] 34)) 5 (ofL b)).heap.size (some ⟨w.heap.size + 1, 0, none⟩) b := by rw [← hz]; exact hm.1
  have hB2 := hB.trans (hm.2.mono hB.size)
  have r2 := (hm.2.block _ (Array.getElem?_eq_some_iff.1 r).1).trans r
  have HG := hide (And.intro hB2 h.row)
  have HC := hide (send_in P k g o C q (.slice (some ⟨w.heap.size + 1, 0, none⟩) (ofL b).size (grownCap (w.alloc (.cells #[.int .i64 0, .int .i64 k, .int .i64 i, .int .i64 at_, .int .u32 mask, .string (ofL b)] 34)) (ofL b).size 0 5)) b _ H (h.alloc hB2) hl hs (fun W D hT => by
    have hR := hm1.to (g := g) (fun ad e => by cases e; show w.heap.size + 1 ≠ g; omega) hT
    have := conv_any hR (grownCap (w.alloc (.cells #[.int .i64 0, .int .i64 k, .int .i64 i, .int .i64 at_, .int .u32 mask, .string (ofL b)] 34)) (ofL b).size 0 5)
    rwa [← ofL_size] at this))
  have hcv1 := hcv (w.alloc (.cells #[.int .i64 0, .int .i64 k, .int .i64 i, .int .i64 at_, .int .u32 mask, .string (ofL b)] 34))
  have HK := hide hk
  clear H h hl hs hm hm1 hz hB r hcv hB2 hk
  generalize hSS : ofL b = S at *
  clear hSS
  go_enter Try.func8, Try.ntmps8
  go_wp2_with fail
  refine HC.out.mono ?_
  rintro e w1 ⟨rfl, hQ⟩
  have HQ := hide hQ
  clear hQ hcv1 e0 e1 e2 e3 e4 e5 HC
  generalize Lib.bytesWorld (w.alloc (.cells #[.int .i64 0, .int .i64 k, .int .i64 i, .int .i64 at_, .int .u32 mask, .string S] 34)) 5 S = U at HG r2 HQ
  have e1 : w1.cell? ⟨w.heap.size, 1, none⟩ = some (.int .i64 k) := by
    obtain ⟨D, hT, _⟩ := HQ.out
    exact cell_of_row _ _ _ _ _ _ (hT.beside (by omega) r2)
  have HF := hide (QTo.back HG.out.2 HG.out.1 HQ.out)
  clear HQ HG r2
  have hk3 := HK.out
  have tz : ((k : Int) == 0) = true ∨ (((k : Int) == 0) = false ∧ ((k : Int) == 1) = true) := by
    have : k = 0 ∨ k = 1 := by omega
    rcases this with rfl | rfl
    · exact .inl rfl
    · exact .inr ⟨rfl, rfl⟩
  clear hk3
  go_wp2_with fail
  rcases tz with t0 | ⟨t0, t1⟩
  all_goals
    go_quiet (fail)
    rename_i nq
    have HF2 := hide (QTo.below HF.out (below_drewN (Below.refl w1.heap.size w1) nq))
    go_wp2_with fail
    exact bodyPost_ret (results_tmp2 rfl _ _ _) rfl ⟨rfl, HF2.out⟩
end Go.Proofs.Ytfknfpngcnianaa
