/-
  The law's argument: a slice of calls; few.
-/
import Derived.Test.YtfknfpngcnianaaLkStep
import Derived.Deep.Slices
import Derived.Deep.Fields
import Derived.ChangeSame
import Derived.ShutString
namespace Go.Proofs.Ytfknfpngcnianaa
open Go.RowKit Go.ChangeShapes Go.WideShapes
set_option maxRecDepth 100000

/-- A call. -/
structure LA where
  kd : Int
  wy : Int
  i : Int
  at_ : Int
  mask : Nat
  b : List UInt8
def LA.cells (a : LA) : Array Value := actC a.kd a.wy a.i a.at_ a.mask a.b
def LA.fits (a : LA) : Prop := -9223372036854775808 ≤ a.at_ ∧ a.at_ ≤ 9223372036854775807 ∧ a.mask < 4294967296
/-- Calls that lie at an address, below block B. -/
def RdLA (w : World) (B : Nat) (A : Option Addr) (l : List LA) : Prop :=
  ∀ k a, l[k]? = some a → ∃ gb ob, A = some ⟨gb, ob, none⟩ ∧ gb < B ∧ ∀ j v, a.cells[j]? = some v → w.cell? ⟨gb, ob + k * 6 + j, none⟩ = some v
theorem RdLA.below {w w' : World} {B : Nat} {A : Option Addr} {l : List LA} (h : RdLA w B A l) (hb : Below B w w') : RdLA w' B A l := fun k a hk => by
  obtain ⟨gb, ob, e, hlt, hc⟩ := h k a hk
  exact ⟨gb, ob, e, hlt, fun j v hv => (hb.cell (p := ⟨gb, ob + k * 6 + j, none⟩) hlt).trans (hc j v hv)⟩
theorem list_of {α : Type} (p : Nat → α → Prop) : ∀ n : Nat, (∀ i, i < n → ∃ a, p i a) → ∃ l : List α, l.length = n ∧ ∀ k a, l[k]? = some a → p k a
  | 0, _ => ⟨[], rfl, fun k a h => by simp at h⟩
  | n + 1, h => by
    obtain ⟨l, hl, hp⟩ := list_of p n (fun i hi => h i (by omega))
    obtain ⟨a, ha⟩ := h n (by omega)
    refine ⟨l ++ [a], by simp [hl], fun k b hb => ?_⟩
    rw [List.getElem?_append] at hb
    split at hb
    · exact hp k b hb
    · rename_i hk
      have hk0 : k - l.length = 0 := by
        rcases Nat.eq_zero_or_pos (k - l.length) with h0 | h0
        · exact h0
        · rw [List.getElem?_eq_none (by simp; omega)] at hb; cases hb
      rw [hk0] at hb
      simp at hb
      subst hb
      rwa [show k = n by omega]
theorem open_la {H : Type} {enc : TypeId × Value → H} {W : World} {fuel : Nat} {cs : List Value} {x : DataW H × List MemPlace} (h : DataW.trod enc Try.prog W 0 (fun _ => true) true fuel 34 cs = some x) :
    ∃ a : LA, a.fits ∧ cs = a.cells.toList := by
  obtain ⟨xs, n, _, _, hc, hlen, hf⟩ := DataW.trod_struct Try.underlying34 h
  have hC : Try.prog.cellsOf 34 = 6 := by kernel_rfl
  have i1 : Try.prog.cellsOf 3 = 1 := by kernel_rfl
  have u1 : Try.prog.cellsOf 32 = 1 := by kernel_rfl
  have s1 : Try.prog.cellsOf 9 = 1 := by kernel_rfl
  rw [hC] at hc
  match cs, hc, xs, hlen with
  | [c0, c1, c2, c3, c4, c5], _, [y0, y1, y2, y3, y4, y5], _ =>
    have h0 : DataW.trod enc Try.prog W 0 (fun _ => true) true n 3 (([c0, c1, c2, c3, c4, c5].drop 0).take (Try.prog.cellsOf 3)) = [y0, y1, y2, y3, y4, y5][0]? := hf 0 _ rfl
    have h1 : DataW.trod enc Try.prog W 0 (fun _ => true) true n 3 (([c0, c1, c2, c3, c4, c5].drop 1).take (Try.prog.cellsOf 3)) = [y0, y1, y2, y3, y4, y5][1]? := hf 1 _ rfl
    have h2 : DataW.trod enc Try.prog W 0 (fun _ => true) true n 3 (([c0, c1, c2, c3, c4, c5].drop 2).take (Try.prog.cellsOf 3)) = [y0, y1, y2, y3, y4, y5][2]? := hf 2 _ rfl
    have h3 : DataW.trod enc Try.prog W 0 (fun _ => true) true n 3 (([c0, c1, c2, c3, c4, c5].drop 3).take (Try.prog.cellsOf 3)) = [y0, y1, y2, y3, y4, y5][3]? := hf 3 _ rfl
    have h4 : DataW.trod enc Try.prog W 0 (fun _ => true) true n 32 (([c0, c1, c2, c3, c4, c5].drop 4).take (Try.prog.cellsOf 32)) = [y0, y1, y2, y3, y4, y5][4]? := hf 4 _ rfl
    have h5 : DataW.trod enc Try.prog W 0 (fun _ => true) true n 9 (([c0, c1, c2, c3, c4, c5].drop 5).take (Try.prog.cellsOf 9)) = [y0, y1, y2, y3, y4, y5][5]? := hf 5 _ rfl
    rw [i1] at h0 h1 h2 h3
    rw [u1] at h4
    rw [s1] at h5
    obtain ⟨n0, e0, _, w0⟩ := DataW.trod_int Try.underlying3 h0
    obtain ⟨n1, e1, _, w1⟩ := DataW.trod_int Try.underlying3 h1
    obtain ⟨n2, e2, _, w2⟩ := DataW.trod_int Try.underlying3 h2
    obtain ⟨n3, e3, _, w3⟩ := DataW.trod_int Try.underlying3 h3
    obtain ⟨n4, e4, _, w4⟩ := DataW.trod_int Try.underlying32 h4
    obtain ⟨s5, e5, _, w5⟩ := DataW.trod_string Try.underlying9 h5
    have b3 : -9223372036854775808 ≤ n3 ∧ n3 ≤ 9223372036854775807 := by simpa [Lit.wf, IntKind.min, IntKind.max, IntKind.signed, IntKind.bits] using w3
    have b4 : 0 ≤ n4 ∧ n4 ≤ 4294967295 := by simpa [Lit.wf, IntKind.min, IntKind.max, IntKind.signed, IntKind.bits] using w4
    obtain ⟨m, rfl⟩ : ∃ m : Nat, n4 = m := ⟨n4.toNat, by omega⟩
    have hs : ofL (toL s5) = s5 := toL_inj (by rw [toL_ofL])
    refine ⟨⟨n0, n1, n2, n3, m, toL s5⟩, ⟨b3.1, b3.2, by show m < _; omega⟩, ?_⟩
    cases e0; cases e1; cases e2; cases e3; cases e4; cases e5
    show _ = [_, _, _, _, _, Value.string (ofL (toL s5))]
    rw [hs]
theorem open_las {H : Type} {enc : TypeId × Value → H} {W : World} {v : Value} {d : DataW H} {ps : List MemPlace} {base : Nat} (hv : Value.okWide Try.prog W .any base 22 v) (h : DataW.Trod enc Try.prog W 0 (fun _ => true) true 22 v d ps) :
    ∃ (A : Option Addr) (l : List LA) (c : Nat), v = .slice A l.length c ∧ (∀ a ∈ l, a.fits) ∧ RdLA W W.heap.size A l ∧ (l.length : Int) ≤ 9223372036854775807 := by
  obtain ⟨a0, len0, cap0, rfl⟩ := okWide_slice Try.underlying22 hv
  obtain ⟨fuel, hf⟩ := h
  have hC : Try.prog.cellsOf 34 = 6 := by kernel_rfl
  rcases Go.Deep.open_slice Try.underlying22 hf with ⟨hcs, _⟩ | ⟨a, len, cap, m, n, D, Pl, hcs, hmx, hl, _, hm, _, hi⟩
  · have e : [Value.slice a0 len0 cap0] = [Value.slice none 0 0] := hcs
    cases e
    exact ⟨none, [], 0, rfl, fun a ha => (List.not_mem_nil ha).elim, fun k a h => by simp at h, by simp⟩
  · have e : [Value.slice a0 len0 cap0] = [Value.slice (some a) len cap] := hcs
    cases e
    obtain ⟨l, hll, hp⟩ := list_of (fun i (b : LA) => b.fits ∧ ∀ j v, b.cells[j]? = some v → W.cell? ((a.add (i * 6)).add j) = some v) len0 (fun i hlt => by
      obtain ⟨cs', hc, ht⟩ := hi i (by rw [hm]; split <;> omega)
      obtain ⟨b, hb, rfl⟩ := open_la ht
      rw [hC] at hc
      obtain ⟨_, _, hat⟩ := World.cells?_some hc
      refine ⟨b, hb, fun j v hv => ?_⟩
      have hj : j < 6 := (Array.getElem?_eq_some_iff.1 hv).1
      have := hat j hj
      rw [this]
      simpa using hv)
    refine ⟨some a, l, cap0, by rw [hll], fun b hb => ?_, fun k b hb => ?_, by rw [hll]; unfold maxLen at *; omega⟩
    · obtain ⟨k, hk⟩ := List.mem_iff_getElem?.1 hb
      exact (hp k b hk).1
    · have hcell := (hp k b hb).2
      have h0 := hcell 0 _ rfl
      have hsp : a.spot = none := by
        have hk0 : 0 < l.length := by have := (List.getElem?_eq_some_iff.1 hb).1; omega
        have h1 := (hp 0 l[0] (List.getElem?_eq_getElem hk0)).2 0 _ rfl
        rw [show (a.add (0 * 6)).add 0 = a from rfl] at h1
        unfold World.cell? at h1
        split at h1
        · split at h1
          · cases h1
          · rename_i h; simpa using h
        · cases h1
      obtain ⟨gb, ob, sp⟩ := a
      simp only at hsp
      subst hsp
      refine ⟨gb, ob, rfl, ?_, fun j v hv => ?_⟩
      · have := cell_lt h0
        rwa [add_block, add_block] at this
      · have := hcell j v hv
        rwa [addr_add, addr_add] at this
/-- Are calls tried? -/
def fewB (l : List LA) : Bool := decide (l.length ≤ 60) && l.all (fun a => decide (a.b.length ≤ 100))
theorem fewB_no {l : List LA} {k : Nat} {a : LA} (h : l[k]? = some a) (hb : 100 < a.b.length) : fewB l = false := by
  unfold fewB
  rw [show l.all (fun a => decide (a.b.length ≤ 100)) = false by
    rw [List.all_eq_false]
    exact ⟨a, List.mem_of_getElem? h, by simp; omega⟩, Bool.and_false]
theorem fewB_yes {l : List LA} (h : l.length ≤ 60) (hb : ∀ a ∈ l, a.b.length ≤ 100) : fewB l = true := by
  unfold fewB
  rw [decide_eq_true h, Bool.true_and, List.all_eq_true]
  intro a ha
  exact decide_eq_true (hb a ha)
theorem fewB_of {l : List LA} (h : fewB l = true) : l.length ≤ 60 ∧ ∀ a ∈ l, a.b.length ≤ 100 := by
  unfold fewB at h
  rw [Bool.and_eq_true] at h
  exact ⟨of_decide_eq_true h.1, fun a ha => of_decide_eq_true (List.all_eq_true.1 h.2 a ha)⟩
set_option maxHeartbeats 4000000 in
theorem few_any (A : Option Addr) (l : List LA) (c : Nat) (w : World) (hA : RdLA w w.heap.size A l) (hm : (l.length : Int) ≤ 9223372036854775807) :
    Calls Try.prog 5 #[.slice A l.length c] w fun e w' => e = .returned (.bool (fewB l)) ∧ w' = w := by
  by_cases h60 : (60 : Int) < l.length
  · have hv : fewB l = false := by unfold fewB; rw [decide_eq_false (by omega), Bool.false_and]
    rw [hv]
    clear hv hA
    go_enter Try.func5, Try.ntmps5
    go_wp2_with fail
    exact bodyPost_ret (results_tmp rfl _ _ _) rfl ⟨rfl, rfl⟩
  · have HA := hide hA
    clear hA
    go_enter Try.func5, Try.ntmps5
    go_wp2_with fail
    go_loop [3] (fun i => ∃ k : Nat, k ≤ l.length ∧ i = .int .i64 k ∧ Hid (∀ a ∈ l.take k, a.b.length ≤ 100)) (fun i => l.length - (intOf i).toNat)
    case atStart => exact ⟨0, Nat.zero_le _, rfl, hide (fun a ha => by simp at ha)⟩
    case round =>
      obtain ⟨k, hk, rfl, HB⟩ := hrel
      by_cases hlt : (k : Int) < l.length
      · have hx := List.getElem?_eq_getElem (show k < l.length by omega)
        obtain ⟨gb, ob, rfl, hgb, hc⟩ := HA.out k _ hx
        have c5 : w.cell? ⟨gb, ob + k * 6 + 5, none⟩ = some (.string (ofL l[k].b)) := hc 5 _ rfl
        have HS := hide (ofL_size l[k].b)
        have hn := fewB_no hx
        have HT := hide (List.take_succ_eq_append_getElem (show k < l.length by omega))
        generalize l[k] = x at *
        clear hc hx
        by_cases hb : 100 < x.b.length
        · have HN := hide (hn hb)
          have hbs : (100 : Int) < (ofL x.b).size := by rw [HS.out]; omega
          clear hn
          go_wp2_with fail
          exact bodyPost_ret (results_tmp rfl _ _ _) rfl ⟨by rw [HN.out]; rfl, rfl⟩
        · have hbs : ¬ (100 : Int) < (ofL x.b).size := by rw [HS.out]; omega
          clear hn
          go_wp2_with fail
          go_round
          case rel => exact ⟨k + 1, by omega, by go_num, hide (fun a ha => by
            rw [HT.out] at ha
            rcases List.mem_append.1 ha with ha | ha
            · exact HB.out a ha
            · simp at ha; subst ha; omega)⟩
          case measure => simp [intOf]; omega
      · obtain rfl : k = l.length := by omega
        have hv : fewB l = true := fewB_yes (by omega) (fun a ha => HB.out a (by rw [List.take_length]; exact ha))
        have HV := hide hv
        clear hv
        go_wp2_with fail
        exact bodyPost_ret (results_tmp rfl _ _ _) rfl ⟨by rw [HV.out]; rfl, rfl⟩
end Go.Proofs.Ytfknfpngcnianaa
