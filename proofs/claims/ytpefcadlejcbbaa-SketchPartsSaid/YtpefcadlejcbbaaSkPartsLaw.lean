/-
  The law SketchParts: its walk.
-/
import Derived.Test.YtpefcadlejcbbaaSkAwake
import Derived.Test.YtpefcadlejcbbaaSkParts
import Derived.Test.YtpefcadlejcbbaaSkAlikeLaw
import Derived.Deep.AppendLies
import Derived.Deep.RegionLaw
namespace Go.Proofs.Ytpefcadlejcbbaa
open Go.RowKit
set_option maxRecDepth 100000

theorem info_parts {i : Option TypeInfo} {a b : Nat} {v : Value} (h : i.map (fun i => (i.zero, i.size, i.bytes)) = some (some v, a, b)) : ∃ i0, i = some i0 ∧ i0.zero = some v ∧ i0.size = a ∧ i0.bytes = b := by
  cases i with
  | none => simp at h
  | some i0 => simp at h; exact ⟨i0, rfl, h.1, h.2.1, h.2.2⟩
theorem sketch_at (ws : List Nat) (k : Nat) (h : k < 8) : (sketchL ws)[k]? = some (leastL ws k) := by
  unfold sketchL
  rw [List.getElem?_map, List.getElem?_range h]; rfl
theorem sub_any {w : World} {B : Nat} {ad : Addr} {l : List UInt8} (h : RdB w B (some ad) l) (j n : Nat) : RdB w B (some (ad.add j)) ((l.drop j).take n) := fun i x hx => by
  rw [List.getElem?_take] at hx
  split at hx
  · rw [List.getElem?_drop] at hx
    obtain ⟨ad', e, hb, hc⟩ := h (j + i) x hx
    cases e
    refine ⟨_, rfl, by rw [add_block]; exact hb, ?_⟩
    have e : (ad.add j).add i = ad.add (j + i) := by
      unfold Addr.add
      by_cases hi : j = 0 <;> by_cases hj : i = 0 <;> simp [hi, hj, Nat.add_assoc]
    rw [e]; exact hc
  · cases hx
theorem take_any {w : World} {B : Nat} {A : Option Addr} {l : List UInt8} (h : RdB w B A l) (n : Nat) : RdB w B A (l.take n) := fun i x hx => by
  rw [List.getElem?_take] at hx
  split at hx
  · exact h i x hx
  · cases hx
theorem sl_from (w : World) (ad : Addr) (L c j : Nat) (h1 : j ≤ L) (h3 : j < c) :
    (Instr.slice 22 (.slice (some ad) L c) (some (.int .i64 j)) none none).run Try.prog w = .ok (.slice (some (ad.add j)) (L - j) (c - j)) w := by
  have hc : ¬ c = j := by omega
  have a1 : (j : Int) ≤ L := by omega
  simp [Instr.slice, Instr.sliceBounds, Instr.sliceBound, asIntOf, run_underlying Try.underlying22, go_sem, hc, h1]
theorem sl_to (w : World) (ad : Addr) (L c m : Nat) (h2 : m ≤ c) :
    (Instr.slice 22 (.slice (some ad) L c) none (some (.int .i64 m)) none).run Try.prog w = .ok (.slice (some ad) m c) w := by
  simp [Instr.slice, Instr.sliceBounds, Instr.sliceBound, asIntOf, run_underlying Try.underlying22, go_sem, h2]
theorem news_of {w : World} {B : Nat} {ad : Addr} {l : List UInt8} (h : RdB w B (some ad) l) : ∀ j u, (l.map byteV)[j]? = some u → w.cell? (ad.add j) = some u := fun j u hu => by
  rw [List.getElem?_map, Option.map_eq_some_iff] at hu
  obtain ⟨y, hy, rfl⟩ := hu
  obtain ⟨ad', e', _, hc⟩ := h j y hy
  cases e'
  exact hc
theorem one_byte (l : List UInt8) : ∀ u ∈ l.map byteV, u.oneCell' = true := fun u hu => by
  obtain ⟨y, _, rfl⟩ := List.mem_map.1 hu
  rfl
theorem keepT2 {w W W0 W2 : World} {a0 a1 a2 a3 a4 a5 a6 a7 b0 b1 b2 b3 b4 b5 b6 b7 : Nat} (h : Below W0.heap.size W0 W ∧ TwoU w [a0, a1, a2, a3, a4, a5, a6, a7] [b0, b1, b2, b3, b4, b5, b6, b7] W ∧ W.cell? ⟨w.heap.size, 0, none⟩ = some (.int .u64 (a0 : Nat)) ∧ W.cell? ⟨w.heap.size, 1, none⟩ = some (.int .u64 (a1 : Nat)) ∧ W.cell? ⟨w.heap.size, 2, none⟩ = some (.int .u64 (a2 : Nat)) ∧ W.cell? ⟨w.heap.size, 3, none⟩ = some (.int .u64 (a3 : Nat)) ∧ W.cell? ⟨w.heap.size, 4, none⟩ = some (.int .u64 (a4 : Nat)) ∧ W.cell? ⟨w.heap.size, 5, none⟩ = some (.int .u64 (a5 : Nat)) ∧ W.cell? ⟨w.heap.size, 6, none⟩ = some (.int .u64 (a6 : Nat)) ∧ W.cell? ⟨w.heap.size, 7, none⟩ = some (.int .u64 (a7 : Nat)) ∧ W.cell? ⟨w.heap.size + 1, 0, none⟩ = some (.int .u64 (b0 : Nat)) ∧ W.cell? ⟨w.heap.size + 1, 1, none⟩ = some (.int .u64 (b1 : Nat)) ∧ W.cell? ⟨w.heap.size + 1, 2, none⟩ = some (.int .u64 (b2 : Nat)) ∧ W.cell? ⟨w.heap.size + 1, 3, none⟩ = some (.int .u64 (b3 : Nat)) ∧ W.cell? ⟨w.heap.size + 1, 4, none⟩ = some (.int .u64 (b4 : Nat)) ∧ W.cell? ⟨w.heap.size + 1, 5, none⟩ = some (.int .u64 (b5 : Nat)) ∧ W.cell? ⟨w.heap.size + 1, 6, none⟩ = some (.int .u64 (b6 : Nat)) ∧ W.cell? ⟨w.heap.size + 1, 7, none⟩ = some (.int .u64 (b7 : Nat))) (hb : Below W.heap.size W W2) :
    Below W0.heap.size W0 W2 ∧ TwoU w [a0, a1, a2, a3, a4, a5, a6, a7] [b0, b1, b2, b3, b4, b5, b6, b7] W2 ∧ W2.cell? ⟨w.heap.size, 0, none⟩ = some (.int .u64 (a0 : Nat)) ∧ W2.cell? ⟨w.heap.size, 1, none⟩ = some (.int .u64 (a1 : Nat)) ∧ W2.cell? ⟨w.heap.size, 2, none⟩ = some (.int .u64 (a2 : Nat)) ∧ W2.cell? ⟨w.heap.size, 3, none⟩ = some (.int .u64 (a3 : Nat)) ∧ W2.cell? ⟨w.heap.size, 4, none⟩ = some (.int .u64 (a4 : Nat)) ∧ W2.cell? ⟨w.heap.size, 5, none⟩ = some (.int .u64 (a5 : Nat)) ∧ W2.cell? ⟨w.heap.size, 6, none⟩ = some (.int .u64 (a6 : Nat)) ∧ W2.cell? ⟨w.heap.size, 7, none⟩ = some (.int .u64 (a7 : Nat)) ∧ W2.cell? ⟨w.heap.size + 1, 0, none⟩ = some (.int .u64 (b0 : Nat)) ∧ W2.cell? ⟨w.heap.size + 1, 1, none⟩ = some (.int .u64 (b1 : Nat)) ∧ W2.cell? ⟨w.heap.size + 1, 2, none⟩ = some (.int .u64 (b2 : Nat)) ∧ W2.cell? ⟨w.heap.size + 1, 3, none⟩ = some (.int .u64 (b3 : Nat)) ∧ W2.cell? ⟨w.heap.size + 1, 4, none⟩ = some (.int .u64 (b4 : Nat)) ∧ W2.cell? ⟨w.heap.size + 1, 5, none⟩ = some (.int .u64 (b5 : Nat)) ∧ W2.cell? ⟨w.heap.size + 1, 6, none⟩ = some (.int .u64 (b6 : Nat)) ∧ W2.cell? ⟨w.heap.size + 1, 7, none⟩ = some (.int .u64 (b7 : Nat)) := ⟨h.1.trans (hb.mono h.1.size), (h.2.1.on hb).cells⟩
theorem own_grown {w w' : World} {base n size : Nat} {e : TypeId} {v : Value} {xs : List Value} (h : w.ownsRow base e size v n xs) (hb : Below w.heap.size w w') : w'.ownsRow base e size v n xs := own_below h hb

set_option maxHeartbeats 8000000 in
theorem sketchParts_in (A : Option Addr) (a : List UInt8) (ca : Nat) (B : Option Addr) (b : List UInt8) (cb c0 c1 : Nat) (w : World) (hA : RdB w w.heap.size A a) (hB : RdB w w.heap.size B b) (hca : Caps A a.length ca) (ha4 : 4 ≤ a.length) (ha : a.length ≤ 60) (hb : b.length ≤ 60) (h0 : c0 < 256) (h1 : c1 < 256) :
    Calls Try.prog 5 #[.slice A a.length ca, .slice B b.length cb, .agg #[.int .u8 c0, .int .u8 c1]] w fun e w' => e = .returned (.bool true) ∧ Below w.heap.size w w' := by
  obtain ⟨i0, hi, hz0, hz1, hz2⟩ := info_parts info_byte
  have e1 : ¬ (60 : Int) < a.length := by omega
  have e2 : ¬ (60 : Int) < b.length := by omega
  have e3 : ¬ (a.length : Int) < 4 := by omega
  have hal : (a.length : Int) ≤ 60 := by omega
  have hbl : (b.length : Int) ≤ 60 := by omega
  have hal4 : (4 : Int) ≤ a.length := by omega
  have hW0 : Below w.heap.size w (w.alloc (.cells #[.int .u8 c0, .int .u8 c1] 37)) := (Below.refl _ w).alloc (Nat.le_refl _) _
  have rc := World.alloc_heap_new w (Obj.cells #[.int .u8 c0, .int .u8 c1] 37)
  have z0 : (w.alloc (.cells #[.int .u8 c0, .int .u8 c1] 37)).heap.size = w.heap.size + 1 := by simp
  obtain ⟨wa, hwa⟩ : ∃ wa, wa = w.alloc (.cells #[.int .u8 c0, .int .u8 c1] 37) := ⟨_, rfl⟩
  rw [← hwa] at hW0 rc z0
  have hO : (wa.alloc (.cells #[] 5)).ownsRow wa.heap.size 5 1 (.slice (some ⟨wa.heap.size, 0, none⟩) 0 0) 0 [] := World.ownsRow_lit wa _ _ (Nat.le_refl _) (by decide) rfl
  have hBa : Below wa.heap.size wa (wa.alloc (.cells #[] 5)) := (Below.refl _ wa).alloc (Nat.le_refl _) _
  have hAa : RdB wa wa.heap.size A a := hA.step hW0
  have hBb : RdB wa wa.heap.size B b := hB.step hW0
  have hR2 := hAa.step hBa
  rw [z0] at hO
  go_enter Try.func5, Try.ntmps5
  rw [hwa] at hO hR2
  go_wp2_with (at_builtin; refine wpList_append_bytes rfl _ _ 22 rfl (w.heap.size + 1) 5 i0 Try.underlying22 hi hz0 hz1 hz2 _ _ _ rfl hO A _ _ _ a rfl rfl hR2 (by unfold maxLen; omega) (by omega) (by simp) ?_)
  intro v1 w1 hO1 hg1
  rw [← hwa] at hg1
  clear hwa
  have hB1 : Below wa.heap.size wa w1 := hBa.grown hg1 hBa.size (fun r e => by have := (hO.lt r e).1; omega)
  have hRb1 := (hBb.below hB1 (Nat.le_refl _)).mono hB1.size
  have hs1 := hB1.size
  clear hg1 hO hR2 hBa
  go_wp2_with (at_builtin; refine wpList_append_bytes rfl _ _ 22 rfl (w.heap.size + 1) 5 i0 Try.underlying22 hi hz0 hz1 hz2 _ _ _ rfl hO1 B _ _ _ b rfl rfl hRb1 (by unfold maxLen; omega) (by omega) (by omega) ?_)
  intro v2 w2 hO2 hg2
  have hB2 : Below wa.heap.size wa w2 := hB1.grown hg2 hB1.size (fun r e => by have := (hO1.lt r e).1; omega)
  obtain ⟨G, cc, rfl⟩ := ownsRow_slice hO2
  obtain ⟨L, hL⟩ : ∃ L, L = a.length + b.length := ⟨_, rfl⟩
  rw [← hL] at hO2 ⊢
  have hO2' : w2.ownsRow (w.heap.size + 1) 5 1 (.slice G L cc) L ((a ++ b).map byteV) := by rw [List.map_append]; exact hO2
  have hab : (a ++ b).length = L := by rw [List.length_append, hL]
  have hRab := RdB.own hO2'
  have hcc := ownsRow_caps hO2'
  have hL4 : 4 ≤ L := by omega
  have hL120 : L ≤ 120 := by omega
  have HL := hide hL
  obtain ⟨x0, x1, x2, x3, x4, x5, x6, x7, hx8⟩ := len8 (sketchL (shL (a ++ b))) (sketchL_len _)
  have HX := hide (show Calls Try.prog 11 #[.slice G L cc] w2 fun e w' => e = .returned (.agg #[.int .u64 (x0 : Nat), .int .u64 (x1 : Nat), .int .u64 (x2 : Nat), .int .u64 (x3 : Nat), .int .u64 (x4 : Nat), .int .u64 (x5 : Nat), .int .u64 (x6 : Nat), .int .u64 (x7 : Nat)]) ∧ Below w2.heap.size w2 w' from by
    have h := of_any G (a ++ b) cc w2 hRab (by rw [hab]; exact hcc.1) (by omega)
    rw [hab, hx8] at h
    exact h)
  clear hO1 hg2 hB1 hRb1 hs1 hO2 hL
  have HK := hide (And.intro hO2' (And.intro hRab hcc))
  have HW := hide (And.intro hW0 (And.intro hAa (And.intro hBb hA)))
  have hO2b := hide hB2
  clear hO2' hRab hcc hW0 hAa hBb
  go_wp2_with fail
  refine HX.out.mono ?_
  rintro e w3 ⟨rfl, hB3⟩
  have hB3' := hO2b.out.trans (hB3.mono hO2b.out.size)
  have rcx : (w3.alloc (.cells #[.int .u64 (x0 : Nat), .int .u64 (x1 : Nat), .int .u64 (x2 : Nat), .int .u64 (x3 : Nat), .int .u64 (x4 : Nat), .int .u64 (x5 : Nat), .int .u64 (x6 : Nat), .int .u64 (x7 : Nat)] 30)).heap[w.heap.size]? = _ := (Below.heap_alloc _ _ _ (by have := hB3'.size; omega)).trans ((hB3'.block _ (by omega)).trans rc)
  obtain ⟨M, hM⟩ : ∃ M, M = L - 3 := ⟨_, rfl⟩
  obtain ⟨p, hp⟩ : ∃ p, p = c0 % M := ⟨_, rfl⟩
  have hpM : p < M := by rw [hp]; exact Nat.mod_lt _ (by omega)
  obtain ⟨q, hq⟩ : ∃ q, q = M - p := ⟨_, rfl⟩
  obtain ⟨r, hr⟩ : ∃ r, r = c1 % q := ⟨_, rfl⟩
  have hrq : r < q := by rw [hr]; exact Nat.mod_lt _ (by omega)
  obtain ⟨n, hn⟩ : ∃ n, n = 4 + r := ⟨_, rfl⟩
  obtain ⟨e9, he⟩ : ∃ e9, e9 = p + n := ⟨_, rfl⟩
  have heL : e9 ≤ L := by omega
  have iM : (L : Int) - 3 = (M : Int) := by omega
  have ip : (c0 : Int) % (M : Int) = (p : Int) := by rw [hp]; rfl
  have iq : (M : Int) - (p : Int) = (q : Int) := by omega
  have ir : (c1 : Int) % (q : Int) = (r : Int) := by rw [hr]; rfl
  have iN : (4 : Int) + (r : Int) = (n : Int) := by omega
  have ie : (p : Int) + (n : Int) = (e9 : Int) := by omega
  have m0 : ¬ (M : Int) = 0 := by omega
  have q0 : ¬ (q : Int) = 0 := by omega
  have m0' : ((M : Int) == 0) = false := by rw [beq_eq_false_iff_ne]; exact m0
  have q0' : ((q : Int) == 0) = false := by rw [beq_eq_false_iff_ne]; exact q0
  have wc0 : IntKind.i64.wrap (c0 : Int) = (c0 : Int) := IntWalk.i64_in _ (by omega)
  have wc1 : IntKind.i64.wrap (c1 : Int) = (c1 : Int) := IntWalk.i64_in _ (by omega)
  have wM : IntKind.i64.wrap (M : Int) = (M : Int) := IntWalk.i64_in _ (by omega)
  have wp : IntKind.i64.wrap (p : Int) = (p : Int) := IntWalk.i64_in _ (by omega)
  have wq : IntKind.i64.wrap (q : Int) = (q : Int) := IntWalk.i64_in _ (by omega)
  have wr_ : IntKind.i64.wrap (r : Int) = (r : Int) := IntWalk.i64_in _ (by omega)
  have wn : IntKind.i64.wrap (n : Int) = (n : Int) := IntWalk.i64_in _ (by omega)
  have we : IntKind.i64.wrap (e9 : Int) = (e9 : Int) := IntWalk.i64_in _ (by omega)
  obtain ⟨ad, rfl, -⟩ := HK.out.2.1 0 _ (List.getElem?_eq_getElem (by rw [hab]; omega))
  have hLc := HK.out.2.2.1
  have hsm := fun W2 : World => sk_mid W2 ad L cc p e9 (by omega) (by omega) (by omega)
  rw [show e9 - p = n by omega] at hsm
  have hlw := hB3.size
  obtain ⟨p0, p1, p2, p3, p4, p5, p6, p7, hp8⟩ := len8 (sketchL (shL (((a ++ b).drop p).take n))) (sketchL_len _)
  have hpl : (((a ++ b).drop p).take n).length = n := by rw [List.length_take, List.length_drop, hab]; omega
  have HP := hide (fun (W : World) (hb : Below w2.heap.size w2 W) => (show Calls Try.prog 11 #[.slice (some (ad.add p)) n (cc - p)] W fun e w' => e = .returned (.agg #[.int .u64 (p0 : Nat), .int .u64 (p1 : Nat), .int .u64 (p2 : Nat), .int .u64 (p3 : Nat), .int .u64 (p4 : Nat), .int .u64 (p5 : Nat), .int .u64 (p6 : Nat), .int .u64 (p7 : Nat)]) ∧ Below W.heap.size W w' from by
    have hR := (HK.out.2.1.below hb (Nat.le_refl _)).mono hb.size
    have h := of_any (some (ad.add p)) (((a ++ b).drop p).take n) (cc - p) W (sub_any hR p n) (by rw [hpl]; omega) (by rw [hpl]; omega)
    rw [hpl, hp8] at h
    exact h))
  have HXP := hide (fun (k x y : Nat) (hx : [x0, x1, x2, x3, x4, x5, x6, x7][k]? = some x) (hy : [p0, p1, p2, p3, p4, p5, p6, p7][k]? = some y) => (show (x : Int) ≤ (y : Int) from by
    have hk : k < 8 := (List.getElem?_eq_some_iff.1 hx).1
    rw [← hx8, sketch_at _ _ hk] at hx
    rw [← hp8, sketch_at _ _ hk] at hy
    have h := part_le (a ++ b) p n k (by omega) (by rw [hab]; omega)
    injection hx with hx
    injection hy with hy
    omega))
  have HPL := hide (And.intro hpM (And.intro hrq (And.intro hn he)))
  clear hM hp hq hr hn he hpM hrq hp8 hx8 hpl

  have HB4 := hide (hB3.alloc hlw (.cells #[.int .u64 (x0 : Nat), .int .u64 (x1 : Nat), .int .u64 (x2 : Nat), .int .u64 (x3 : Nat), .int .u64 (x4 : Nat), .int .u64 (x5 : Nat), .int .u64 (x6 : Nat), .int .u64 (x7 : Nat)] 30))
  have cc0 : (w3.alloc (.cells #[.int .u64 (x0 : Nat), .int .u64 (x1 : Nat), .int .u64 (x2 : Nat), .int .u64 (x3 : Nat), .int .u64 (x4 : Nat), .int .u64 (x5 : Nat), .int .u64 (x6 : Nat), .int .u64 (x7 : Nat)] 30)).cell? ⟨w.heap.size, 0, none⟩ = some (.int .u8 c0) := cell_of_row _ _ _ _ _ _ rcx
  have cc1 : (w3.alloc (.cells #[.int .u64 (x0 : Nat), .int .u64 (x1 : Nat), .int .u64 (x2 : Nat), .int .u64 (x3 : Nat), .int .u64 (x4 : Nat), .int .u64 (x5 : Nat), .int .u64 (x6 : Nat), .int .u64 (x7 : Nat)] 30)).cell? ⟨w.heap.size, 1, none⟩ = some (.int .u8 c1) := cell_of_row _ _ _ _ _ _ rcx
  have rx : (w3.alloc (.cells #[.int .u64 (x0 : Nat), .int .u64 (x1 : Nat), .int .u64 (x2 : Nat), .int .u64 (x3 : Nat), .int .u64 (x4 : Nat), .int .u64 (x5 : Nat), .int .u64 (x6 : Nat), .int .u64 (x7 : Nat)] 30)).heap[w3.heap.size]? = some (.cells (U [x0, x1, x2, x3, x4, x5, x6, x7]) 30 (0, 0)) := World.alloc_heap_new w3 (.cells #[.int .u64 (x0 : Nat), .int .u64 (x1 : Nat), .int .u64 (x2 : Nat), .int .u64 (x3 : Nat), .int .u64 (x4 : Nat), .int .u64 (x5 : Nat), .int .u64 (x6 : Nat), .int .u64 (x7 : Nat)] 30)
  obtain ⟨hW0, hAa, _, hA0⟩ := HW.out
  have hBw2 : Below w.heap.size w w2 := hW0.trans (hO2b.out.mono hW0.size)
  have HA2 := hide (fun (W : World) (hb : Below w2.heap.size w2 W) => (show RdB W W.heap.size A a from by
    have hbw := hBw2.trans (hb.mono hBw2.size)
    exact (hA0.below hbw (Nat.le_refl _)).mono hbw.size))
  have HBW := hide hBw2
  obtain ⟨o0, o1, o2, o3, o4, o5, o6, o7, ho8⟩ := len8 (sketchL (shL a)) (sketchL_len _)
  obtain ⟨t0, t1, t2, t3, t4, t5, t6, t7, ht8⟩ := len8 (sketchL (shL (a ++ a))) (sketchL_len _)
  obtain ⟨s0, s1, s2, s3, s4, s5, s6, s7, hs8⟩ := len8 (sketchL (shL (seamL a))) (sketchL_len _)
  have HOa := hide (fun (W : World) (hb : Below w2.heap.size w2 W) => (show Calls Try.prog 11 #[.slice A a.length ca] W fun e w' => e = .returned (.agg #[.int .u64 (o0 : Nat), .int .u64 (o1 : Nat), .int .u64 (o2 : Nat), .int .u64 (o3 : Nat), .int .u64 (o4 : Nat), .int .u64 (o5 : Nat), .int .u64 (o6 : Nat), .int .u64 (o7 : Nat)]) ∧ Below W.heap.size W w' from by
    have h := of_any A a ca W (HA2.out W hb) hca.1 (by omega)
    rw [ho8] at h
    exact h))
  have HOt := hide (fun (W : World) (G : Option Addr) (L2 c2 : Nat) (h2 : L2 = a.length + a.length) (hc2 : L2 ≤ c2) (hr : RdB W W.heap.size G (a ++ a)) => (show Calls Try.prog 11 #[.slice G L2 c2] W fun e w' => e = .returned (.agg #[.int .u64 (t0 : Nat), .int .u64 (t1 : Nat), .int .u64 (t2 : Nat), .int .u64 (t3 : Nat), .int .u64 (t4 : Nat), .int .u64 (t5 : Nat), .int .u64 (t6 : Nat), .int .u64 (t7 : Nat)]) ∧ Below W.heap.size W w' from by
    have h := of_any G (a ++ a) c2 W hr (by rw [List.length_append, ← h2]; exact hc2) (by rw [List.length_append]; omega)
    rw [ht8, List.length_append, ← h2] at h
    exact h))
  have HOs := hide (fun (W : World) (G : Option Addr) (c2 : Nat) (hc2 : 6 ≤ c2) (hr : RdB W W.heap.size G (seamL a)) => (show Calls Try.prog 11 #[.slice G 6 c2] W fun e w' => e = .returned (.agg #[.int .u64 (s0 : Nat), .int .u64 (s1 : Nat), .int .u64 (s2 : Nat), .int .u64 (s3 : Nat), .int .u64 (s4 : Nat), .int .u64 (s5 : Nat), .int .u64 (s6 : Nat), .int .u64 (s7 : Nat)]) ∧ Below W.heap.size W w' from by
    have h6 := seamL_len a ha4
    have h := of_any G (seamL a) c2 W hr (by rw [h6]; exact hc2) (by rw [h6]; decide)
    rw [hs8, h6] at h
    exact h))
  have HME := hide (fun W : World => (show Calls Try.prog 13 #[.agg #[.int .u64 (o0 : Nat), .int .u64 (o1 : Nat), .int .u64 (o2 : Nat), .int .u64 (o3 : Nat), .int .u64 (o4 : Nat), .int .u64 (o5 : Nat), .int .u64 (o6 : Nat), .int .u64 (o7 : Nat)], .agg #[.int .u64 (s0 : Nat), .int .u64 (s1 : Nat), .int .u64 (s2 : Nat), .int .u64 (s3 : Nat), .int .u64 (s4 : Nat), .int .u64 (s5 : Nat), .int .u64 (s6 : Nat), .int .u64 (s7 : Nat)]] W fun e w' => e = .returned (.agg #[.int .u64 (t0 : Nat), .int .u64 (t1 : Nat), .int .u64 (t2 : Nat), .int .u64 (t3 : Nat), .int .u64 (t4 : Nat), .int .u64 (t5 : Nat), .int .u64 (t6 : Nat), .int .u64 (t7 : Nat)]) ∧ Below W.heap.size W w' from by
    have h := merge_any (sketchL (shL a)) (sketchL (shL (seamL a))) W (sketchL_len _) (sketchL_len _)
    rw [← twice_sketch a ha4, ho8, ht8, hs8] at h
    exact h))
  have HE := hide (fun W : World => (show (binOp .eql 30 (.agg #[.int .u64 (t0 : Nat), .int .u64 (t1 : Nat), .int .u64 (t2 : Nat), .int .u64 (t3 : Nat), .int .u64 (t4 : Nat), .int .u64 (t5 : Nat), .int .u64 (t6 : Nat), .int .u64 (t7 : Nat)]) (.agg #[.int .u64 (t0 : Nat), .int .u64 (t1 : Nat), .int .u64 (t2 : Nat), .int .u64 (t3 : Nat), .int .u64 (t4 : Nat), .int .u64 (t5 : Nat), .int .u64 (t6 : Nat), .int .u64 (t7 : Nat)])).run Try.prog W = .ok (.bool true) W from by
    have h8 := arr8_eq t0 t1 t2 t3 t4 t5 t6 t7 t0 t1 t2 t3 t4 t5 t6 t7 W
    simp only [beq_self_eq_true, Bool.and_self] at h8
    have h9 : ∀ a b : Value, (Op.equalIn Op.maxDepth 30 a b) = Op.equalIn 10000 30 a b := fun a b => rfl
    simp only [binOp, Op.equal, Sem.run_bind, h9, h8, Result.andThen_ok]
    rfl))
  obtain ⟨ada, hAe, -⟩ := hA0 0 _ (List.getElem?_eq_getElem (by omega))
  subst hAe
  have hca1 := hca.1
  clear hB3 hAa hA0 hW0 hBw2 ho8 ht8 hs8 HW HX hca
  go_wp2_with fail
  clear wc0 wc1 wM wp wq wr_ wn we m0 q0 m0' q0' iM ip iq ir iN ie hsm cc0 cc1 rcx hLc hlw
  obtain ⟨gx, hgx⟩ : ∃ gx, gx = w3.heap.size := ⟨_, rfl⟩
  rw [← hgx] at rx ⊢
  generalize (w3.alloc (.cells #[.int .u64 (x0 : Nat), .int .u64 (x1 : Nat), .int .u64 (x2 : Nat), .int .u64 (x3 : Nat), .int .u64 (x4 : Nat), .int .u64 (x5 : Nat), .int .u64 (x6 : Nat), .int .u64 (x7 : Nat)] 30)) = w4 at rx HB4 ⊢
  clear hgx
  refine (HP.out w4 HB4.out).mono ?_
  rintro e w5 ⟨rfl, hB5⟩
  have hb25 := HB4.out.trans (hB5.mono HB4.out.size)
  have rp := World.alloc_heap_new w5 (.cells #[.int .u64 (p0 : Nat), .int .u64 (p1 : Nat), .int .u64 (p2 : Nat), .int .u64 (p3 : Nat), .int .u64 (p4 : Nat), .int .u64 (p5 : Nat), .int .u64 (p6 : Nat), .int .u64 (p7 : Nat)] 30)
  have rx6 : (w5.alloc (.cells #[.int .u64 (p0 : Nat), .int .u64 (p1 : Nat), .int .u64 (p2 : Nat), .int .u64 (p3 : Nat), .int .u64 (p4 : Nat), .int .u64 (p5 : Nat), .int .u64 (p6 : Nat), .int .u64 (p7 : Nat)] 30)).heap[gx]? = _ := (Below.heap_alloc _ _ _ (by have := (Array.getElem?_eq_some_iff.1 rx).1; have := hB5.size; omega)).trans ((hB5.block _ (Array.getElem?_eq_some_iff.1 rx).1).trans rx)
  have hb26 := hb25.alloc hb25.size (.cells #[.int .u64 (p0 : Nat), .int .u64 (p1 : Nat), .int .u64 (p2 : Nat), .int .u64 (p3 : Nat), .int .u64 (p4 : Nat), .int .u64 (p5 : Nat), .int .u64 (p6 : Nat), .int .u64 (p7 : Nat)] 30)
  clear hB5 HP hb25 HB4 rx
  go_wp2_with fail
  obtain ⟨gp, hgp⟩ : ∃ gp, gp = w5.heap.size := ⟨_, rfl⟩
  rw [← hgp] at rp ⊢
  have HL6 := hide (show (w5.alloc (.cells #[.int .u64 (p0 : Nat), .int .u64 (p1 : Nat), .int .u64 (p2 : Nat), .int .u64 (p3 : Nat), .int .u64 (p4 : Nat), .int .u64 (p5 : Nat), .int .u64 (p6 : Nat), .int .u64 (p7 : Nat)] 30)).heap[gx]? = some (.cells (U [x0, x1, x2, x3, x4, x5, x6, x7]) 30 (0, 0)) ∧ (w5.alloc (.cells #[.int .u64 (p0 : Nat), .int .u64 (p1 : Nat), .int .u64 (p2 : Nat), .int .u64 (p3 : Nat), .int .u64 (p4 : Nat), .int .u64 (p5 : Nat), .int .u64 (p6 : Nat), .int .u64 (p7 : Nat)] 30)).heap[gp]? = some (.cells (U [p0, p1, p2, p3, p4, p5, p6, p7]) 30 (0, 0)) ∧ Below w2.heap.size w2 (w5.alloc (.cells #[.int .u64 (p0 : Nat), .int .u64 (p1 : Nat), .int .u64 (p2 : Nat), .int .u64 (p3 : Nat), .int .u64 (p4 : Nat), .int .u64 (p5 : Nat), .int .u64 (p6 : Nat), .int .u64 (p7 : Nat)] 30)) from ⟨rx6, rp, hb26⟩)
  generalize (w5.alloc (.cells #[.int .u64 (p0 : Nat), .int .u64 (p1 : Nat), .int .u64 (p2 : Nat), .int .u64 (p3 : Nat), .int .u64 (p4 : Nat), .int .u64 (p5 : Nat), .int .u64 (p6 : Nat), .int .u64 (p7 : Nat)] 30)) = w6 at HL6 ⊢
  clear hgp rp rx6 hb26
  go_loopw [6, 12] (fun _ i wr => ∃ k : Nat, k ≤ 8 ∧ i = .int .i64 k ∧ Hid (wr.heap[gx]? = some (.cells (U [x0, x1, x2, x3, x4, x5, x6, x7]) 30 (0, 0)) ∧ wr.heap[gp]? = some (.cells (U [p0, p1, p2, p3, p4, p5, p6, p7]) 30 (0, 0)) ∧ Below w2.heap.size w2 wr)) (fun _ i _ => 8 - (intOf i).toNat)
  case atStart => exact ⟨0, by decide, rfl, HL6⟩
  case round =>
    clear HL6
    obtain ⟨k, hk, rfl, HT⟩ := hrel
    by_cases hlt : (k : Int) < 8
    · have hk8 : k < 8 := by omega
      obtain ⟨x, hx⟩ : ∃ x, [x0, x1, x2, x3, x4, x5, x6, x7][k]? = some x := ⟨_, List.getElem?_eq_getElem (by simp; omega)⟩
      obtain ⟨y, hy⟩ : ∃ y, [p0, p1, p2, p3, p4, p5, p6, p7][k]? = some y := ⟨_, List.getElem?_eq_getElem (by simp; omega)⟩
      have i0 := index8 gx k hk8
      have i1 := index8 gp k hk8
      have cx : wr.cell? ⟨gx, k, none⟩ = some (.int .u64 (x : Nat)) := (cell_of_row _ _ _ _ _ _ HT.out.1).trans (U_at _ _ _ hx)
      have cy : wr.cell? ⟨gp, k, none⟩ = some (.int .u64 (y : Nat)) := (cell_of_row _ _ _ _ _ _ HT.out.2.1).trans (U_at _ _ _ hy)
      have hxy2 : (x : Int) ≤ (y : Int) := HXP.out k x y hx hy
      have hb1 := HT.out.2.2
      have HD := hide (show wr.drew.heap[gx]? = some (.cells (U [x0, x1, x2, x3, x4, x5, x6, x7]) 30 (0, 0)) ∧ wr.drew.heap[gp]? = some (.cells (U [p0, p1, p2, p3, p4, p5, p6, p7]) 30 (0, 0)) ∧ Below w2.heap.size w2 wr.drew from ⟨HT.out.1, HT.out.2.1, ⟨hb1.os, hb1.tape, hb1.output, hb1.size, hb1.block⟩⟩)
      clear hx hy HT hb1
      go_wp2_with fail
      go_still (by kernel_rfl)
      go_wp2_with fail
      go_roundw
      case rel => exact ⟨k + 1, hk8, rfl, HD⟩
      case measure => simp [intOf]; omega
    · obtain rfl : k = 8 := by omega
      have hb2r := HT.out.2.2
      clear HXP HT HPL
      go_wp2_with fail
      refine (HOa.out wr hb2r).mono ?_
      rintro e w7 ⟨rfl, hB7⟩
      have hb27 := hb2r.trans (hB7.mono hb2r.size)
      have hA7 := HA2.out w7 hb27
      have hO7 := World.ownsRow_lit (base := w7.heap.size) (e := 5) (size := 1) w7 #[] 0 (Nat.le_refl _) (by decide) rfl
      have hB8 : Below w7.heap.size w7 (w7.alloc (.cells #[] 5)) := (Below.refl _ w7).alloc (Nat.le_refl _) _
      have hR8 := hA7.step hB8
      clear hB7 hb2r
      go_wp2_with (at_builtin; refine wpList_append_bytes rfl _ _ 22 rfl w7.heap.size 5 i0 Try.underlying22 hi hz0 hz1 hz2 _ _ _ rfl hO7 (some ada) _ _ _ a rfl rfl hR8 (by unfold maxLen; omega) (by omega) (by simp) ?_)
      intro v8 w8 hO8 hg8
      have hB9 : Below w7.heap.size w7 w8 := hB8.grown hg8 hB8.size (fun r e => (hO7.lt r e).1)
      have hR9 := (hA7.below hB9 (Nat.le_refl _)).mono hB9.size
      clear hR8 hg8 hO7 hB8
      go_wp2_with (at_builtin; refine wpList_append_bytes rfl _ _ 22 rfl w7.heap.size 5 i0 Try.underlying22 hi hz0 hz1 hz2 _ _ _ rfl hO8 (some ada) _ _ _ a rfl rfl hR9 (by unfold maxLen; omega) (by omega) hB9.size ?_)
      intro v9 w9 hO9 hg9
      have hB10 : Below w7.heap.size w7 w9 := hB9.grown hg9 hB9.size (fun r e => (hO8.lt r e).1)
      obtain ⟨G2, c2, rfl⟩ := ownsRow_slice hO9
      obtain ⟨L2, hL2⟩ : ∃ L2, L2 = a.length + a.length := ⟨_, rfl⟩
      rw [← hL2] at hO9 ⊢
      have hO9' : w9.ownsRow w7.heap.size 5 1 (.slice G2 L2 c2) L2 ((a ++ a).map byteV) := by rw [List.map_append]; exact hO9
      have HT2 := hide (HOt.out w9 G2 L2 c2 hL2 (ownsRow_cap hO9') (RdB.own hO9'))
      have hb29 := hb27.trans (hB10.mono hb27.size)
      clear hO8 hg9 hO9 hO9' hB9 hB10 hR9 hA7 hb27 hL2
      go_wp2_with fail
      refine HT2.out.mono ?_
      rintro e w10 ⟨rfl, hB11⟩
      have HbA := hide (hb29.trans (hB11.mono hb29.size))
      clear hb29 hB11 HT2
      go_wp2_with fail
      obtain ⟨u0, u1, uB⟩ := two_rows w10 #[.int .u64 (o0 : Nat), .int .u64 (o1 : Nat), .int .u64 (o2 : Nat), .int .u64 (o3 : Nat), .int .u64 (o4 : Nat), .int .u64 (o5 : Nat), .int .u64 (o6 : Nat), .int .u64 (o7 : Nat)] #[.int .u64 (t0 : Nat), .int .u64 (t1 : Nat), .int .u64 (t2 : Nat), .int .u64 (t3 : Nat), .int .u64 (t4 : Nat), .int .u64 (t5 : Nat), .int .u64 (t6 : Nat), .int .u64 (t7 : Nat)] 30 30
      have HT := hide (show TwoU w10 [o0, o1, o2, o3, o4, o5, o6, o7] [t0, t1, t2, t3, t4, t5, t6, t7] ((w10.alloc (.cells #[.int .u64 (o0 : Nat), .int .u64 (o1 : Nat), .int .u64 (o2 : Nat), .int .u64 (o3 : Nat), .int .u64 (o4 : Nat), .int .u64 (o5 : Nat), .int .u64 (o6 : Nat), .int .u64 (o7 : Nat)] 30)).alloc (.cells #[.int .u64 (t0 : Nat), .int .u64 (t1 : Nat), .int .u64 (t2 : Nat), .int .u64 (t3 : Nat), .int .u64 (t4 : Nat), .int .u64 (t5 : Nat), .int .u64 (t6 : Nat), .int .u64 (t7 : Nat)] 30)) from ⟨u0, u1, uB⟩)
      clear u0 u1 uB
      generalize ((w10.alloc (.cells #[.int .u64 (o0 : Nat), .int .u64 (o1 : Nat), .int .u64 (o2 : Nat), .int .u64 (o3 : Nat), .int .u64 (o4 : Nat), .int .u64 (o5 : Nat), .int .u64 (o6 : Nat), .int .u64 (o7 : Nat)] 30)).alloc (.cells #[.int .u64 (t0 : Nat), .int .u64 (t1 : Nat), .int .u64 (t2 : Nat), .int .u64 (t3 : Nat), .int .u64 (t4 : Nat), .int .u64 (t5 : Nat), .int .u64 (t6 : Nat), .int .u64 (t7 : Nat)] 30)) = w11 at HT ⊢
      obtain ⟨d3, hd3⟩ : ∃ d3, d3 = a.length - 3 := ⟨_, rfl⟩
      have i3 : (a.length : Int) - 3 = (d3 : Int) := by omega
      have w3' : IntKind.i64.wrap (d3 : Int) = (d3 : Int) := IntWalk.i64_in _ (by omega)
      have hs1 := fun W : World => sl_from W ada a.length ca d3 (by omega) (by omega)
      have hs2 := fun W : World => sl_to W ada a.length ca 3 (by omega)
      rw [show a.length - d3 = 3 by omega] at hs1
      have hs2 : ∀ W : World, (Instr.slice 22 (.slice (some ada) a.length ca) none (some (.int .i64 3)) none).run Try.prog W = .ok (.slice (some ada) 3 ca) W := hs2
      have hlen1 : (a.drop d3).length = 3 := by rw [List.length_drop]; omega
      have hlen2 : (a.take 3).length = 3 := by rw [List.length_take]; omega
      have hb2B := HbA.out.trans (HT.out.2.2.mono HbA.out.size)
      have hA11 := HA2.out w11 hb2B
      have hAd : RdB w11.drew w11.drew.heap.size (some ada) a := hA11
      have hBd : Below w11.drew.heap.size w11.drew (w11.drew.alloc (.cells #[] 5)) := (Below.refl _ w11.drew).alloc (Nat.le_refl _) _
      have hOd := World.ownsRow_lit (base := w11.drew.heap.size) (e := 5) (size := 1) w11.drew #[] 0 (Nat.le_refl _) (by decide) rfl
      have hAx := hAd.step hBd
      have hN1 := news_of (sub_any hAx d3 3)
      rw [List.take_of_length_le (by omega)] at hN1
      clear hA11
      have HX2 := hide (And.intro hd3 hb2B)
      clear hd3 hb2B
      go_region_law (first
        | (refine step_append_lies _ rfl _ _ 22 rfl w11.drew.heap.size 5 i0 (.int .u8 0) 1 1 Try.underlying22 hi hz0 hz1 hz2 rfl (by decide) _ 0 [] rfl hOd (ada.add d3) 3 (ca - d3) ((a.drop d3).map byteV) rfl (by rw [List.length_map, hlen1]) hN1 (one_byte _) (by decide) (by decide) (by decide) (by simp) _ rfl ?_
           intro g1 cap1 w12 hO12 hg12 hat12 hlt12)
        | (refine step_append_lies _ rfl _ _ 22 rfl w11.drew.heap.size 5 i0 (.int .u8 0) 1 1 Try.underlying22 hi hz0 hz1 hz2 rfl (by decide) _ 3 _ rfl hO12 ada 3 ca ((a.take 3).map byteV) rfl (by rw [List.length_map, hlen2]) (news_of (take_any (hAd.below (hBd.grown hg12 hBd.size (fun r e => (hOd.lt r e).1)) (Nat.le_refl _)) 3)) (one_byte _) (by decide) (by decide) (by decide) ((hBd.grown hg12 hBd.size (fun r e => (hOd.lt r e).1)).size) _ rfl ?_
           intro g2 cap2 w13 hO13 hg13 hat13 hlt13))
      all_goals
        have hBs1 : Below w11.drew.heap.size w11.drew w12 := hBd.grown hg12 hBd.size (fun r e => (hOd.lt r e).1)
        have hBs : Below w11.drew.heap.size w11.drew w13 := hBs1.grown hg13 hBs1.size (fun r e => (hO12.lt r e).1)
        have hBs' : Below w11.heap.size w11 w13 := ⟨hBs.os, hBs.tape, hBs.output, hBs.size, hBs.block⟩
        have hO13' : w13.ownsRow w11.drew.heap.size 5 1 (.slice (some ⟨g2, 0, none⟩) 6 cap2) 6 ((seamL a).map byteV) := by
          unfold seamL
          rw [← HX2.out.1, List.map_append]
          exact hO13
        have hRs := RdB.own hO13'
        have hc6 : 6 ≤ cap2 := ownsRow_cap hO13'
        have HSm := hide (fun (W : World) (hb : Below w13.heap.size w13 W) => HOs.out W (some ⟨g2, 0, none⟩) cap2 hc6 ((hRs.below hb (Nat.le_refl _)).mono hb.size))
        have HT13 := hide (HT.out.on hBs')
        have HBf := hide (HBW.out.trans ((HX2.out.2.trans (hBs'.mono HX2.out.2.size)).mono HBW.out.size))
        have hEq := HE.out
        clear hO12 hg12 hat12 hlt12 hO13 hg13 hat13 hlt13 hBs1 hBs hBs' hO13' hRs hc6 hAd hBd hOd hAx hN1 hs1 hs2 HX2 HT
        go_wp2_with fail
        have hdx : Below w13.heap.size w13 w13.drew ∧ TwoU w10 [o0, o1, o2, o3, o4, o5, o6, o7] [t0, t1, t2, t3, t4, t5, t6, t7] w13.drew ∧ w13.drew.cell? ⟨w10.heap.size, 0, none⟩ = some (.int .u64 (o0 : Nat)) ∧ w13.drew.cell? ⟨w10.heap.size, 1, none⟩ = some (.int .u64 (o1 : Nat)) ∧ w13.drew.cell? ⟨w10.heap.size, 2, none⟩ = some (.int .u64 (o2 : Nat)) ∧ w13.drew.cell? ⟨w10.heap.size, 3, none⟩ = some (.int .u64 (o3 : Nat)) ∧ w13.drew.cell? ⟨w10.heap.size, 4, none⟩ = some (.int .u64 (o4 : Nat)) ∧ w13.drew.cell? ⟨w10.heap.size, 5, none⟩ = some (.int .u64 (o5 : Nat)) ∧ w13.drew.cell? ⟨w10.heap.size, 6, none⟩ = some (.int .u64 (o6 : Nat)) ∧ w13.drew.cell? ⟨w10.heap.size, 7, none⟩ = some (.int .u64 (o7 : Nat)) ∧ w13.drew.cell? ⟨w10.heap.size + 1, 0, none⟩ = some (.int .u64 (t0 : Nat)) ∧ w13.drew.cell? ⟨w10.heap.size + 1, 1, none⟩ = some (.int .u64 (t1 : Nat)) ∧ w13.drew.cell? ⟨w10.heap.size + 1, 2, none⟩ = some (.int .u64 (t2 : Nat)) ∧ w13.drew.cell? ⟨w10.heap.size + 1, 3, none⟩ = some (.int .u64 (t3 : Nat)) ∧ w13.drew.cell? ⟨w10.heap.size + 1, 4, none⟩ = some (.int .u64 (t4 : Nat)) ∧ w13.drew.cell? ⟨w10.heap.size + 1, 5, none⟩ = some (.int .u64 (t5 : Nat)) ∧ w13.drew.cell? ⟨w10.heap.size + 1, 6, none⟩ = some (.int .u64 (t6 : Nat)) ∧ w13.drew.cell? ⟨w10.heap.size + 1, 7, none⟩ = some (.int .u64 (t7 : Nat)) :=
          ⟨⟨rfl, rfl, rfl, Nat.le_refl _, fun _ _ => rfl⟩, TwoU.cells ⟨HT13.out.1, HT13.out.2.1, ⟨HT13.out.2.2.os, HT13.out.2.2.tape, HT13.out.2.2.output, HT13.out.2.2.size, HT13.out.2.2.block⟩⟩⟩
        go_region_held3 (fun w' => Below w13.heap.size w13 w' ∧ TwoU w10 [o0, o1, o2, o3, o4, o5, o6, o7] [t0, t1, t2, t3, t4, t5, t6, t7] w' ∧ w'.cell? ⟨w10.heap.size, 0, none⟩ = some (.int .u64 (o0 : Nat)) ∧ w'.cell? ⟨w10.heap.size, 1, none⟩ = some (.int .u64 (o1 : Nat)) ∧ w'.cell? ⟨w10.heap.size, 2, none⟩ = some (.int .u64 (o2 : Nat)) ∧ w'.cell? ⟨w10.heap.size, 3, none⟩ = some (.int .u64 (o3 : Nat)) ∧ w'.cell? ⟨w10.heap.size, 4, none⟩ = some (.int .u64 (o4 : Nat)) ∧ w'.cell? ⟨w10.heap.size, 5, none⟩ = some (.int .u64 (o5 : Nat)) ∧ w'.cell? ⟨w10.heap.size, 6, none⟩ = some (.int .u64 (o6 : Nat)) ∧ w'.cell? ⟨w10.heap.size, 7, none⟩ = some (.int .u64 (o7 : Nat)) ∧ w'.cell? ⟨w10.heap.size + 1, 0, none⟩ = some (.int .u64 (t0 : Nat)) ∧ w'.cell? ⟨w10.heap.size + 1, 1, none⟩ = some (.int .u64 (t1 : Nat)) ∧ w'.cell? ⟨w10.heap.size + 1, 2, none⟩ = some (.int .u64 (t2 : Nat)) ∧ w'.cell? ⟨w10.heap.size + 1, 3, none⟩ = some (.int .u64 (t3 : Nat)) ∧ w'.cell? ⟨w10.heap.size + 1, 4, none⟩ = some (.int .u64 (t4 : Nat)) ∧ w'.cell? ⟨w10.heap.size + 1, 5, none⟩ = some (.int .u64 (t5 : Nat)) ∧ w'.cell? ⟨w10.heap.size + 1, 6, none⟩ = some (.int .u64 (t6 : Nat)) ∧ w'.cell? ⟨w10.heap.size + 1, 7, none⟩ = some (.int .u64 (t7 : Nat)))
          (first
            | assumption
            | exact hdx
            | exact keepT2 (by assumption) hbk)
          (first
            | (go_at_call 8; refine (skAwake_any _).mono ?_; rintro e wk ⟨rfl, hbk⟩)
            | (go_at_call 11; with_reducible refine (HSm.out _ (And.left (by assumption))).mono ?_; rintro e wk ⟨rfl, hbk⟩)
            | (go_at_call 13; with_reducible refine (HME.out _).mono ?_; rintro e wk ⟨rfl, hbk⟩))
        all_goals
          rename_i hH2
          have HF := hide hH2.1
          clear hH2
          go_wp2_with fail
          exact bodyPost_ret (results_tmp rfl _ _ _) rfl ⟨rfl, HBf.out.trans (HF.out.mono HBf.out.size)⟩

set_option maxHeartbeats 2000000 in
theorem sketchParts_law (A : Option Addr) (a : List UInt8) (ca : Nat) (B : Option Addr) (b : List UInt8) (cb c0 c1 : Nat) (w : World) (hA : RdB w w.heap.size A a) (hB : RdB w w.heap.size B b) (hca : Caps A a.length ca) (h0 : c0 < 256) (h1 : c1 < 256) :
    Calls Try.prog 5 #[.slice A a.length ca, .slice B b.length cb, .agg #[.int .u8 c0, .int .u8 c1]] w fun e w' => e = .returned (.bool true) ∧ Below w.heap.size w w' := by
  have hW0 : Below w.heap.size w (w.alloc (.cells #[.int .u8 c0, .int .u8 c1] 37)) := (Below.refl _ w).alloc (Nat.le_refl _) _
  have fin : ∀ w9, Below (w.alloc (.cells #[.int .u8 c0, .int .u8 c1] 37)).heap.size (w.alloc (.cells #[.int .u8 c0, .int .u8 c1] 37)) w9 → Below w.heap.size w w9 := fun w9 h => hW0.trans (h.mono hW0.size)
  have HF := hide fin
  by_cases e1 : (60 : Int) < a.length
  · clear fin hA hB hca h0 h1 hW0
    go_enter Try.func5, Try.ntmps5
    go_wp2_with fail
    refine (skAwake_any _).mono ?_
    rintro e w9 ⟨rfl, hB9⟩
    have HB9 := hide (HF.out w9 hB9)
    clear hB9
    go_wp2_with fail
    exact bodyPost_ret (results_tmp rfl _ _ _) rfl ⟨rfl, HB9.out⟩
  by_cases e2 : (60 : Int) < b.length
  · clear fin hA hB hca h0 h1 hW0
    go_enter Try.func5, Try.ntmps5
    go_wp2_with fail
    refine (skAwake_any _).mono ?_
    rintro e w9 ⟨rfl, hB9⟩
    have HB9 := hide (HF.out w9 hB9)
    clear hB9
    go_wp2_with fail
    exact bodyPost_ret (results_tmp rfl _ _ _) rfl ⟨rfl, HB9.out⟩
  by_cases e3 : (a.length : Int) < 4
  · clear fin hA hB hca h0 h1 hW0
    go_enter Try.func5, Try.ntmps5
    go_wp2_with fail
    refine (skAwake_any _).mono ?_
    rintro e w9 ⟨rfl, hB9⟩
    have HB9 := hide (HF.out w9 hB9)
    clear hB9
    go_wp2_with fail
    exact bodyPost_ret (results_tmp rfl _ _ _) rfl ⟨rfl, HB9.out⟩
  exact sketchParts_in A a ca B b cb c0 c1 w hA hB hca (by omega) (by omega) (by omega) h0 h1
end Go.Proofs.Ytpefcadlejcbbaa
