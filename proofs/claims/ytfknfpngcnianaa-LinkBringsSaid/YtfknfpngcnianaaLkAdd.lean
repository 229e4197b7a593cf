/-
  (*queue).lose and (*queue).add.
-/
import Derived.Test.YtfknfpngcnianaaLkTake
namespace Go.Proofs.Ytfknfpngcnianaa
open Go.RowKit
set_option maxRecDepth 100000

theorem get_ne {C : Array Value} {i j : Nat} {v : Value} (h : j ≠ i) : (C.setIfInBounds i v)[j]? = C[j]? := by rw [Array.getElem?_setIfInBounds, if_neg (Ne.symm h)]
theorem get_eq {C : Array Value} {i : Nat} {v : Value} (h : i < C.size) : (C.setIfInBounds i v)[i]? = some v := by rw [Array.getElem?_setIfInBounds, if_pos rfl, if_pos h]
theorem QAt.lose {C : Array Value} {o : Nat} {q : Way} (h : QAt C o q) (hs : o + 35 ≤ C.size) (n : Nat) : QAt (C.setIfInBounds (o + 34) (.int .i64 n)) o { q with lost := n } :=
  ⟨fun i hi => by rw [get_ne (by omega)]; exact h.d i hi, fun i hi => by rw [get_ne (by omega)]; exact h.t i hi, by rw [get_ne (by omega)]; exact h.n, by rw [get_ne (by omega)]; exact h.sent, get_eq (by omega)⟩
theorem QAt.send {C : Array Value} {o : Nat} {q : Way} (h : QAt C o q) (hs : o + 35 ≤ C.size) (n : Nat) : QAt (C.setIfInBounds (o + 33) (.int .i64 n)) o { q with sent := n } :=
  ⟨fun i hi => by rw [get_ne (by omega)]; exact h.d i hi, fun i hi => by rw [get_ne (by omega)]; exact h.t i hi, by rw [get_ne (by omega)]; exact h.n, get_eq (by omega), by rw [get_ne (by omega)]; exact h.lost⟩
theorem QAt.turn {C : Array Value} {o : Nat} {q : Way} (h : QAt C o q) (hs : o + 35 ≤ C.size) (i : Nat) (hi : i < q.l.length) (hn : q.l.length ≤ 16) (p : Pk) : QAt ((C.setIfInBounds (o + i * 2) (.string (ofL p.b))).setIfInBounds (o + i * 2 + 1) (.bool p.t)) o { q with l := q.l.set i p } := by
  refine ⟨fun j hj => ?_, fun j hj => ?_, ?_, ?_, ?_⟩
  · rw [get_ne (by omega)]
    unfold Way.dat
    by_cases e : j = i
    · subst e; rw [get_eq (by omega), List.getElem?_set_self hi]; rfl
    · rw [get_ne (by omega), List.getElem?_set_ne (Ne.symm e)]; exact h.d j hj
  · unfold Way.trn
    by_cases e : j = i
    · subst e; rw [get_eq (by simp; omega), List.getElem?_set_self hi]; rfl
    · rw [get_ne (by omega), get_ne (by omega), List.getElem?_set_ne (Ne.symm e)]; exact h.t j hj
  · rw [get_ne (by omega), get_ne (by omega), List.length_set]; exact h.n
  · rw [get_ne (by omega), get_ne (by omega)]; exact h.sent
  · rw [get_ne (by omega), get_ne (by omega)]; exact h.lost
theorem QAt.push {C : Array Value} {o : Nat} {q : Way} (h : QAt C o q) (hs : o + 35 ≤ C.size) (hn : q.l.length < 16) (p : Pk) : QAt (((C.setIfInBounds (o + q.l.length * 2) (.string (ofL p.b))).setIfInBounds (o + q.l.length * 2 + 1) (.bool p.t)).setIfInBounds (o + 32) (.int .i64 ((q.l.length : Int) + 1))) o { q with l := q.l ++ [p] } := by
  refine ⟨fun j hj => ?_, fun j hj => ?_, ?_, ?_, ?_⟩
  · rw [get_ne (by omega), get_ne (by omega)]
    unfold Way.dat
    by_cases e : j = q.l.length
    · subst e; rw [get_eq (by omega)]; simp
    · rw [get_ne (by omega), h.d j hj]
      unfold Way.dat
      by_cases e2 : j < q.l.length
      · rw [List.getElem?_append_left e2]
      · rw [List.getElem?_append_right (by omega), List.getElem?_eq_none_iff.2 (by omega), List.getElem?_eq_none_iff.2 (by simp; omega)]
  · rw [get_ne (by omega)]
    unfold Way.trn
    by_cases e : j = q.l.length
    · subst e; rw [get_eq (by simp; omega)]; simp
    · rw [get_ne (by omega), get_ne (by omega), h.t j hj]
      unfold Way.trn
      by_cases e2 : j < q.l.length
      · rw [List.getElem?_append_left e2]
      · rw [List.getElem?_append_right (by omega), List.getElem?_eq_none_iff.2 (by omega), List.getElem?_eq_none_iff.2 (by simp; omega)]
  · rw [get_eq (by simp; omega)]; simp
  · rw [get_ne (by omega), get_ne (by omega), get_ne (by omega)]; exact h.sent
  · rw [get_ne (by omega), get_ne (by omega), get_ne (by omega)]; exact h.lost

/-- A way in a link's block. -/
structure In (w : World) (g o : Nat) (C : Array Value) (q : Way) : Prop where
  row : w.heap[g]? = some (.cells C 56 (0, 0))
  size : o + 35 ≤ C.size
  one : ∀ v ∈ C.toList, v.oneCell' = true
  at_ : QAt C o q
  few : q.l.length ≤ 16
/-- What has become of it. -/
def QTo (w : World) (g o : Nat) (C : Array Value) (q : Way) (w' : World) : Prop :=
  ∃ D, To w g D w' ∧ In w' g o D q ∧ D.size = C.size ∧ ∀ j, (j < o ∨ o + 35 ≤ j) → D[j]? = C[j]?
theorem QTo.trans {w w1 w2 : World} {g o : Nat} {C D : Array Value} {r : Way} (h : To w g D w1) (hs : D.size = C.size) (hj : ∀ j, (j < o ∨ o + 35 ≤ j) → D[j]? = C[j]?) (k : QTo w1 g o D r w2) : QTo w g o C r w2 := by
  obtain ⟨E, k1, k2, k3, k4⟩ := k
  exact ⟨E, h.call k1, k2, k3.trans hs, fun j x => (k4 j x).trans (hj j x)⟩
/-- A packet is lost. -/
def Way.lose (q : Way) (i : Nat) : Way := { q.took i with lost := q.lost + 1 }

set_option maxHeartbeats 4000000 in
theorem lose_any (g o i : Nat) (C : Array Value) (q : Way) (w : World) (h : In w g o C q) (hi : i < q.l.length) (hl : q.lost ≤ 1000000) :
    Calls Try.prog 24 #[.pointer (some ⟨g, o, none⟩), .int .i64 i] w fun e w' => e = .returned (.tuple #[]) ∧ QTo w g o C (q.lose i) w' := by
  have HT := hide (take_any g o i C q w h.row h.size h.one h.at_ hi h.few)
  have HQ := hide (tookC_ok C o i q h.at_ hi h.few h.size)
  have HL := hide (took_len q i hi)
  have HO := hide (fun j => tookC_off C o i q.l.length j hi h.few h.size)
  have HZ := hide (tookC_size C o i q.l.length hi h.few h.size)
  have H1 := hide (tookC_one C o i q.l.length h.one)
  have HS := hide h.size
  have HF := hide h.few
  have hl2 : (q.lost : Int) ≤ 1000000 := by omega
  go_enter Try.func24, Try.ntmps24
  go_wp2_with fail
  refine HT.out.mono ?_
  rintro e w1 ⟨rfl, hT⟩
  have c34 : w1.cell? ⟨g, o + 34, none⟩ = some (.int .i64 q.lost) := (hT.cell (o + 34)).trans HQ.out.lost
  have z34 := hT.free (o + 34)
  generalize hC : tookC C o i q.l.length = D at *
  have HC := hide hC
  clear hC
  have T2 := hT.set (o + 34) (.int .i64 ((q.lost : Int) + 1))
  have HX := hide T2
  clear T2
  go_wp2_with fail
  go_end0
  have HQ2 := HQ.out.lose (by rw [HZ.out]; exact HS.out) (q.lost + 1)
  refine ⟨rfl, _, HX.out, ⟨HX.out.1, by rw [Array.size_setIfInBounds, HZ.out]; exact HS.out, one_set H1.out _ _ rfl, HQ2, ?_⟩, ?_, fun j hj => ?_⟩
  · show (q.took i).l.length ≤ 16
    rw [HL.out]; have := HF.out; omega
  · rw [Array.size_setIfInBounds, HZ.out]
  · rw [get_ne (by omega)]; exact HO.out j hj

/-- A packet behind the others; the first one is lost if the way is full. -/
def Way.put (q : Way) (p : Pk) : Way := if q.l.length = 16 then { q.lose 0 with l := (q.lose 0).l ++ [p] } else { q with l := q.l ++ [p] }
theorem To.beside {w w1 : World} {g b : Nat} {C : Array Value} {o : Obj} (h : To w g C w1) (hne : b ≠ g) (hb : w.heap[b]? = some o) : w1.heap[b]? = some o :=
  (h.2.block b (Array.getElem?_eq_some_iff.1 hb).1 (fun e => hne (by injection e))).trans hb
/-- What 'add' does behind its test. -/
theorem In.alloc {w w1 : World} {g o : Nat} {C : Array Value} {q : Way} (h : In w g o C q) (hB : Below w.heap.size w w1) : In w1 g o C q :=
  ⟨(hB.block g (Array.getElem?_eq_some_iff.1 h.row).1).trans h.row, h.size, h.one, h.at_, h.few⟩

set_option maxHeartbeats 4000000 in
theorem add_full (g o : Nat) (C : Array Value) (q : Way) (p : Pk) (w : World) (h : In w g o C q) (hf : q.l.length = 16) (hl : q.lost ≤ 1000000) :
    Calls Try.prog 21 #[.pointer (some ⟨g, o, none⟩), .agg #[.string (ofL p.b), .bool p.t]] w fun e w' => e = .returned (.tuple #[]) ∧ QTo w g o C (q.put p) w' := by
  have hgl : g < w.heap.size := (Array.getElem?_eq_some_iff.1 h.row).1
  have hB := (Below.refl _ w).alloc (Nat.le_refl _) (.cells #[.string (ofL p.b), .bool p.t] 50)
  have rb := World.alloc_heap_new w (.cells #[.string (ofL p.b), .bool p.t] 50)
  have h0 := h.alloc hB
  have T0 := (To.start h.row).below hB
  have c32 : (w.alloc (.cells #[.string (ofL p.b), .bool p.t] 50)).cell? ⟨g, o + 32, none⟩ = some (.int .i64 q.l.length) := (T0.cell (o + 32)).trans h.at_.n
  have hf2 : (q.l.length : Int) = 16 := by omega
  have HP := hide (show q.put p = { q.lose 0 with l := (q.lose 0).l ++ [p] } from by unfold Way.put; rw [if_pos hf])
  clear hB h
  have HL := hide (fun W (h : In W g o C q) => lose_any g o 0 C q W h (by omega) hl)
  have h15 : (q.lose 0).l.length = 15 := by show (q.took 0).l.length = 15; rw [took_len _ _ (by omega)]; omega
  have H15 := hide h15
  clear h15
  rw [hf2] at c32
  clear hf hf2
  go_enter Try.func21, Try.ntmps21
  go_upto_region 2 with fail
  clear c32
  generalize w.alloc (.cells #[.string (ofL p.b), .bool p.t] 50) = V at h0 T0 rb ⊢
  have HL := hide (HL.out V h0)
  go_upto_region 3 with (refine HL.out.mono ?_; rintro e w1 ⟨rfl, D, hT, h1, hz, hj⟩)
  have T1 := T0.call hT
  have rb := hT.beside (by omega) rb
  have hin := h1
  have HM := hide (show (q.lose 0).l.length < 16 by rw [H15.out]; decide)
  have HZ := hide hz
  have HJ := hide hj
  clear hT h1 hz hj HL H15 h0 T0
  generalize hr : q.lose 0 = r at *
  have HR := hide hr
  clear hr
  generalize w1 = V at T1 rb hin ⊢
  have hm16 : (r.l.length : Int) < 16 := by have := HM.out; omega
  have hQ := hin.at_.push hin.size HM.out p
  have hone := hin.one
  have hsz := hin.size
  have c32 : V.drew.cell? ⟨g, o + 32, none⟩ = some (.int .i64 r.l.length) := (T1.cell (o + 32)).trans hin.at_.n
  have hmm : r.l.length < 16 := HM.out
  generalize hrl : r.l.length = m at *
  have HRL := hide hrl
  clear hrl
  obtain ⟨v0, hv0⟩ : ∃ v, D[o + m * 2]? = some v := ⟨_, Array.getElem?_eq_getElem (by omega)⟩
  obtain ⟨v1, hv1⟩ : ∃ v, D[o + m * 2 + 1]? = some v := ⟨_, Array.getElem?_eq_getElem (by omega)⟩
  have f0 : V.drew.cell? ⟨g, o + m * 2, none⟩ = some v0 := (T1.cell _).trans hv0
  have f1 : V.drew.cell? ⟨g, o + m * 2 + 1, none⟩ = some v1 := (T1.cell _).trans hv1
  have z0 : V.drew.frozen? ⟨g, o + m * 2, none⟩ = false := T1.free _
  have z1 : V.drew.frozen? ⟨g, o + m * 2 + 1, none⟩ = false := T1.free _
  have e0 : V.drew.cell? ⟨w.heap.size, 0, none⟩ = some (.string (ofL p.b)) := cell_of_row _ _ _ _ _ _ rb
  have e1 : V.drew.cell? ⟨w.heap.size, 1, none⟩ = some (.bool p.t) := cell_of_row _ _ _ _ _ _ rb
  have HQ := hide hQ
  have H1 := hide hone
  have HS := hide hsz
  clear hQ hone hsz hin hmm hv0 hv1
  go_still_tail 9, (by kernel_rfl)
  change wpList _ _ _ _ _ V.drew
  have T2 := T1.drew
  clear T1
  generalize V.drew = V2 at T2 c32 f0 f1 z0 z1 ⊢
  have T3 := (T2.set (o + m * 2) (.string (ofL p.b))).set (o + m * 2 + 1) (.bool p.t)
  go_upto_region 4 with fail
  have c32 : ((V2.setCell ⟨g, o + m * 2, none⟩ (.string (ofL p.b))).setCell ⟨g, o + m * 2 + 1, none⟩ (.bool p.t)).cell? ⟨g, o + 32, none⟩ = some (.int .i64 m) := by
    rw [T3.cell, get_ne (by omega), get_ne (by omega), ← T2.cell]
    exact c32
  clear f0 f1 z0 z1 T2
  generalize ((V2.setCell ⟨g, o + m * 2, none⟩ (.string (ofL p.b))).setCell ⟨g, o + m * 2 + 1, none⟩ (.bool p.t)) = V3 at T3 c32 ⊢
  have z32 := T3.free (o + 32)
  have T4 := T3.set (o + 32) (.int .i64 ((m : Int) + 1))
  have HT := hide T4
  clear T3 T4
  go_wp2_with fail
  go_end0
  refine ⟨rfl, _, HT.out, ⟨HT.out.1, ?_, one_set (one_set (one_set H1.out _ _ rfl) _ _ rfl) _ _ rfl, ?_, ?_⟩, ?_, fun j hj => ?_⟩
  · simp only [Array.size_setIfInBounds]; exact HS.out
  · rw [HP.out]; exact HQ.out
  · rw [HP.out]; show (r.l ++ [p]).length ≤ 16; rw [List.length_append, HRL.out]; show m + 1 ≤ 16; omega
  · simp only [Array.size_setIfInBounds]; exact HZ.out
  · rw [get_ne (by omega), get_ne (by omega), get_ne (by omega)]; exact HJ.out j hj
set_option maxHeartbeats 4000000 in
theorem add_room (g o : Nat) (C : Array Value) (q : Way) (p : Pk) (w : World) (h : In w g o C q) (hf : q.l.length < 16) (hl : q.lost ≤ 1000000) :
    Calls Try.prog 21 #[.pointer (some ⟨g, o, none⟩), .agg #[.string (ofL p.b), .bool p.t]] w fun e w' => e = .returned (.tuple #[]) ∧ QTo w g o C (q.put p) w' := by
  have hgl : g < w.heap.size := (Array.getElem?_eq_some_iff.1 h.row).1
  have hB := (Below.refl _ w).alloc (Nat.le_refl _) (.cells #[.string (ofL p.b), .bool p.t] 50)
  have rb := World.alloc_heap_new w (.cells #[.string (ofL p.b), .bool p.t] 50)
  have h0 := h.alloc hB
  have T0 := (To.start h.row).below hB
  have c32 : (w.alloc (.cells #[.string (ofL p.b), .bool p.t] 50)).cell? ⟨g, o + 32, none⟩ = some (.int .i64 q.l.length) := (T0.cell (o + 32)).trans h.at_.n
  have hf2 : ¬ (q.l.length : Int) = 16 := by omega
  have HP := hide (show q.put p = { q with l := q.l ++ [p] } from by unfold Way.put; rw [if_neg (by omega)])
  clear hB h
  go_enter Try.func21, Try.ntmps21
  go_upto_region 3 with fail
  have T1 := T0
  have hin := h0
  have HM := hide hf
  clear c32 hf2 hf h0 T0
  generalize w.alloc (.cells #[.string (ofL p.b), .bool p.t] 50) = V at T1 rb hin ⊢
  obtain ⟨r, hr⟩ : ∃ r, r = q := ⟨q, rfl⟩
  subst hr
  obtain ⟨D, hD⟩ : ∃ D, D = C := ⟨C, rfl⟩
  subst hD
  have hm16 : (r.l.length : Int) < 16 := by have := HM.out; omega
  have hQ := hin.at_.push hin.size HM.out p
  have hone := hin.one
  have hsz := hin.size
  have c32 : V.drew.cell? ⟨g, o + 32, none⟩ = some (.int .i64 r.l.length) := (T1.cell (o + 32)).trans hin.at_.n
  have hmm : r.l.length < 16 := HM.out
  generalize hrl : r.l.length = m at *
  have HRL := hide hrl
  clear hrl
  obtain ⟨v0, hv0⟩ : ∃ v, D[o + m * 2]? = some v := ⟨_, Array.getElem?_eq_getElem (by omega)⟩
  obtain ⟨v1, hv1⟩ : ∃ v, D[o + m * 2 + 1]? = some v := ⟨_, Array.getElem?_eq_getElem (by omega)⟩
  have f0 : V.drew.cell? ⟨g, o + m * 2, none⟩ = some v0 := (T1.cell _).trans hv0
  have f1 : V.drew.cell? ⟨g, o + m * 2 + 1, none⟩ = some v1 := (T1.cell _).trans hv1
  have z0 : V.drew.frozen? ⟨g, o + m * 2, none⟩ = false := T1.free _
  have z1 : V.drew.frozen? ⟨g, o + m * 2 + 1, none⟩ = false := T1.free _
  have e0 : V.drew.cell? ⟨w.heap.size, 0, none⟩ = some (.string (ofL p.b)) := cell_of_row _ _ _ _ _ _ rb
  have e1 : V.drew.cell? ⟨w.heap.size, 1, none⟩ = some (.bool p.t) := cell_of_row _ _ _ _ _ _ rb
  have HQ := hide hQ
  have H1 := hide hone
  have HS := hide hsz
  clear hQ hone hsz hin hmm hv0 hv1
  go_still_tail 9, (by kernel_rfl)
  change wpList _ _ _ _ _ V.drew
  have T2 := T1.drew
  clear T1
  generalize V.drew = V2 at T2 c32 f0 f1 z0 z1 ⊢
  have T3 := (T2.set (o + m * 2) (.string (ofL p.b))).set (o + m * 2 + 1) (.bool p.t)
  go_upto_region 4 with fail
  have c32 : ((V2.setCell ⟨g, o + m * 2, none⟩ (.string (ofL p.b))).setCell ⟨g, o + m * 2 + 1, none⟩ (.bool p.t)).cell? ⟨g, o + 32, none⟩ = some (.int .i64 m) := by
    rw [T3.cell, get_ne (by omega), get_ne (by omega), ← T2.cell]
    exact c32
  clear f0 f1 z0 z1 T2
  generalize ((V2.setCell ⟨g, o + m * 2, none⟩ (.string (ofL p.b))).setCell ⟨g, o + m * 2 + 1, none⟩ (.bool p.t)) = V3 at T3 c32 ⊢
  have z32 := T3.free (o + 32)
  have T4 := T3.set (o + 32) (.int .i64 ((m : Int) + 1))
  have HT := hide T4
  clear T3 T4
  go_wp2_with fail
  go_end0
  refine ⟨rfl, _, HT.out, ⟨HT.out.1, ?_, one_set (one_set (one_set H1.out _ _ rfl) _ _ rfl) _ _ rfl, ?_, ?_⟩, ?_, fun j hj => ?_⟩
  · simp only [Array.size_setIfInBounds]; exact HS.out
  · rw [HP.out]; exact HQ.out
  · rw [HP.out]; show (r.l ++ [p]).length ≤ 16; rw [List.length_append, HRL.out]; show m + 1 ≤ 16; omega
  · simp only [Array.size_setIfInBounds]
  · rw [get_ne (by omega), get_ne (by omega), get_ne (by omega)]
theorem add_any (g o : Nat) (C : Array Value) (q : Way) (p : Pk) (w : World) (h : In w g o C q) (hl : q.lost ≤ 1000000) :
    Calls Try.prog 21 #[.pointer (some ⟨g, o, none⟩), .agg #[.string (ofL p.b), .bool p.t]] w fun e w' => e = .returned (.tuple #[]) ∧ QTo w g o C (q.put p) w' := by
  by_cases hf : q.l.length = 16
  · exact add_full g o C q p w h hf hl
  · exact add_room g o C q p w h (by have := h.few; omega) hl
end Go.Proofs.Ytfknfpngcnianaa
