/-
  mirror.lay: both trees laid one over the other.
-/
import Derived.Test.YteoafohebgfjdaaGreatDoorAutoMiMarks
import Derived.Test.YteoafohebgfjdaaGreatDoorAutoRuleShut
namespace Go.Proofs.YteoafohebgfjdaaGreatDoor
open Go.RowKit Go.Maps
set_option maxRecDepth 100000

/-- A node whose names and paths may come up. -/
structure NdOk (LL : Bd) (n : Nd) : Prop where
  path : (n.path.size : Int) ≤ 1000000
  names : ∀ x : ByteArray, toL x ∈ nmN n → x ∈ LL.names ∧ x.size ≤ maxLen
  paths : ∀ k, (nmN n).take k ∈ LL.paths
theorem names_up (p : List UInt8) {u : List UInt8} (h : u ∈ upsL p) : ∃ i, namesL u = (namesL p).take i := by
  unfold upsL at h
  obtain ⟨i, hi, rfl⟩ := List.mem_map.1 h
  rw [List.mem_range] at hi
  refine ⟨i, ?_⟩
  rcases i with _ | i
  · rw [List.take_zero]
    show namesL (p.take 0) = []
    rw [List.take_zero]
    rfl
  · rw [ups_glue p (i + 1) (by omega) hi]
    have hr : rightL p = true := by
      cases hr : rightL p with
      | true => rfl
      | false => rw [names_cut, hr] at hi; simp at hi
    have hn : namesL p = cutL p := by rw [names_cut, hr]; rfl
    rw [right_cut, Bool.and_eq_true] at hr
    rw [hn]
    have ha : ((cutL p).take (i + 1)).all nameL = true := by
      rw [List.all_eq_true] at hr ⊢
      exact fun x hx => hr.1 x (List.mem_of_mem_take hx)
    have hc := cut_glue letter_slash _ ha
    rw [names_cut, right_cut, hc, ha]
    have h16 := of_decide_eq_true hr.2
    rw [decide_eq_true (by rw [List.length_take]; omega)]
    rfl
theorem NdOk.up {LL : Bd} {n : Nd} (h : NdOk LL n) (x : ByteArray) (hx : toL x ∈ upsL (toL n.path)) : (x.size : Int) ≤ 1000000 ∧ (∀ y : ByteArray, toL y ∈ namesL (toL x) → y ∈ LL.names ∧ y.size ≤ maxLen) ∧ ∀ k, [] ++ (namesL (toL x)).take k ∈ LL.paths := by
  obtain ⟨i, hi⟩ := names_up _ hx
  refine ⟨?_, fun y hy => ?_, fun k => ?_⟩
  · have hx2 := hx
    unfold upsL at hx2
    obtain ⟨m, _, hm⟩ := List.mem_map.1 hx2
    have h2 := congrArg List.length hm
    rw [List.length_take] at h2
    have e1 : (toL x).length = x.size := by simp [toL]
    have e2 : (toL n.path).length = n.path.size := by simp [toL]
    have := h.path
    omega
  · rw [hi] at hy
    exact h.names y (List.mem_of_mem_take hy)
  · rw [hi, List.take_take]
    exact h.paths _
/-- What lay leaves. -/
def LayTo (LL : Bd) (V : Ns → Pl) (w : World) (e : Ending) (w' : World) : Prop :=
  ∃ A q, e = .returned (.pointer (some ⟨q.1, 0, none⟩)) ∧ A [] = some q ∧ PT w' w.heap.size LL A V ∧ Below w.heap.size w w'
/-- The root alone. -/
def rootA (a b : Nat) : Where := fun P => if P = [] then some (a, b) else none
theorem root_pt (w : World) (LL : Bd) (h0 : [] ∈ LL.paths) : PT ((w.alloc (.map #[] 0)).alloc (.cells (zeroPl.cells w.heap.size) 71)) w.heap.size LL (rootA (w.heap.size + 1) w.heap.size) (fun _ => zeroPl) := by
  have hr : ∀ P q, rootA (w.heap.size + 1) w.heap.size P = some q → P = [] ∧ q = (w.heap.size + 1, w.heap.size) := fun P q e => by
    unfold rootA at e
    split at e
    · rename_i h; injection e with e; exact ⟨h, e.symm⟩
    · cases e
  refine ⟨fun P q e => ?_, fun P q e => ?_, fun P q e => ?_, fun P Q q r e1 e2 _ => ?_, fun P Q q r e1 e2 _ => ?_, fun P x e => ?_, fun _ _ => rfl, fun P e => ?_⟩
  · obtain ⟨rfl, rfl⟩ := hr P q e
    exact ⟨Nat.le_succ _, Nat.le_refl _⟩
  · obtain ⟨rfl, rfl⟩ := hr P q e
    have h := World.alloc_heap_new (w.alloc (.map #[] 0)) (Obj.cells (zeroPl.cells w.heap.size) 71)
    simp only [World.size_alloc] at h
    exact h
  · obtain ⟨rfl, rfl⟩ := hr P q e
    have e2 : kidF (rootA (w.heap.size + 1) w.heap.size) [] = fun _ => none := by
      funext y
      unfold kidF rootA
      simp
    rw [e2]
    refine (MapIs.made w LL.names).same ?_
    rw [Below.heap_alloc _ _ _ (by simp)]
  · rw [(hr P q e1).1, (hr Q r e2).1]
  · rw [(hr P q e1).1, (hr Q r e2).1]
  · unfold rootA at e
    simp at e
  · cases e3 : rootA (w.heap.size + 1) w.heap.size P with
    | none => exact absurd e3 e
    | some q => rw [(hr P q e3).1]; exact h0
/-- Nodes that lie beside the places. -/
def RdF (wr : World) (A : Where) (A1 : Option Addr) (l : List Nd) : Prop := RdN wr wr.heap.size A1 l ∧ ∀ ad, A1 = some ad → Clear A ad.block wr
theorem RdF.step {A A' : Where} {w w' : World} {A1 : Option Addr} {l : List Nd} (h : RdF w A A1 l) (hf : Fr A w w') (hx : Ext A A' w.heap.size) : RdF w' A' A1 l :=
  ⟨fun k n hk => by
    obtain ⟨ad, e, hlt, hn⟩ := h.1 k n hk
    have hc := (h.2 ad e).step hf hx
    have hcell : ∀ x, w'.cell? ⟨ad.block, x, none⟩ = w.cell? ⟨ad.block, x, none⟩ := fun x => World.cell?_of_block (by exact hc.2)
    refine ⟨ad, e, Nat.lt_of_lt_of_le hlt hf.size, ?_⟩
    have hb : (ad.add (k * 5)).block = ad.block := add_block _ _
    exact ⟨(World.cell?_of_block (by rw [hb]; exact hc.2)).trans hn.path, (World.cell?_of_block (by show w'.heap[(ad.add (k * 5)).block]? = _; rw [hb]; exact hc.2)).trans hn.kind, (World.cell?_of_block (by show w'.heap[(ad.add (k * 5)).block]? = _; rw [hb]; exact hc.2)).trans hn.mode, (World.cell?_of_block (by show w'.heap[(ad.add (k * 5)).block]? = _; rw [hb]; exact hc.2)).trans hn.time, (World.cell?_of_block (by show w'.heap[(ad.add (k * 5)).block]? = _; rw [hb]; exact hc.2)).trans hn.data⟩, fun ad e => ((h.2 ad e).step hf hx).1⟩
theorem RdF.below {A : Where} {w w' : World} {A1 : Option Addr} {l : List Nd} (h : RdF w A A1 l) (hb : Below w.heap.size w w') : RdF w' A A1 l := h.step (Fr.of_below hb) (Ext.refl A _)
/-- What a call has just made lies beside the places. -/
theorem RdF.made {LL : Bd} {A : Where} {V : Ns → Pl} {w w' : World} {B : Nat} {A1 : Option Addr} {l : List Nd} {c n : Nat} (h : PT w B LL A V) (hN : NI w (.slice A1 n c) l w') (hn : n = l.length) : RdF w' A A1 l := by
  subst hn
  refine ⟨RdN.own hN.own, fun ad e => ?_⟩
  have h1 := hN.own.lt ad.block (by rw [e]; rfl)
  exact ⟨h1.2, fun ho => by have := (h.lt ho).2; omega⟩
/-- Between two nodes. -/
structure LayI (LL : Bd) (w : World) (A : Where) (V : Ns → Pl) (wr : World) : Prop where
  root : A [] = some (w.heap.size + 1, w.heap.size)
  pt : PT wr w.heap.size LL A V
  box : wr.heap[w.heap.size + 2]? = some (.cells #[.pointer (some ⟨w.heap.size + 1, 0, none⟩)] 50 (0, 0))
  nobox : ¬ Own A (w.heap.size + 2)
  below : Below w.heap.size w wr
theorem LayI.step {LL : Bd} {w wr w' : World} {A : Where} {V : Ns → Pl} (h : LayI LL w A V wr) (hb : Below wr.heap.size wr w') : LayI LL w A V w' :=
  ⟨h.root, h.pt.step hb, (hb.block _ (Array.getElem?_eq_some_iff.1 h.box).1).trans h.box, h.nobox, h.below.trans (hb.mono h.below.size)⟩
theorem LayI.turn {LL : Bd} {w wr w' : World} {A A' : Where} {V V' : Ns → Pl} (h : LayI LL w A V wr) (hp : PT w' w.heap.size LL A' V') (hf : Fr A wr w') (hx : Ext A A' wr.heap.size) : LayI LL w A' V' w' := by
  have hc := (show Clear A (w.heap.size + 2) wr from ⟨(Array.getElem?_eq_some_iff.1 h.box).1, h.nobox⟩).step hf hx
  exact ⟨hx.keep _ _ h.root, hp, hc.2.trans h.box, hc.1.2, h.below.trans (hf.back (fun k hk => (h.pt.lt hk).1) h.below.size)⟩
/-- Between two paths that a guarded one is under. -/
def UpI (LL : Bd) (w : World) (A0 : Where) (V0 : Ns → Pl) (C1 : Option Addr) (L3 : List Nd) (ds : List Deferred) (X : Nat) (pre : List ByteArray) (W : World) : Prop :=
  ∃ A', LayI LL w A' ((pre.map toL).foldl setL V0) W ∧ Ext A0 A' X ∧ RdF W A' C1 L3 ∧ Mk A' w.heap.size ds W
theorem RdF.grown {w w' : World} {A : Where} {A1 : Option Addr} {l : List Nd} {row : Option Nat} (h : RdF w A A1 l) (hg : w.grownBy w' row) (hne : ∀ ad, A1 = some ad → some ad.block ≠ row) : RdF w' A A1 l :=
  ⟨fun k n hk => by
    obtain ⟨ad, e, hlt, hn⟩ := h.1 k n hk
    have hc : w'.heap[ad.block]? = w.heap[ad.block]? := hg.block _ hlt (hne ad e)
    refine ⟨ad, e, Nat.lt_of_lt_of_le hlt hg.size, ?_⟩
    have hb : (ad.add (k * 5)).block = ad.block := add_block _ _
    exact ⟨(World.cell?_of_block (by rw [hb]; exact hc)).trans hn.path, (World.cell?_of_block (by show w'.heap[(ad.add (k * 5)).block]? = _; rw [hb]; exact hc)).trans hn.kind, (World.cell?_of_block (by show w'.heap[(ad.add (k * 5)).block]? = _; rw [hb]; exact hc)).trans hn.mode, (World.cell?_of_block (by show w'.heap[(ad.add (k * 5)).block]? = _; rw [hb]; exact hc)).trans hn.time, (World.cell?_of_block (by show w'.heap[(ad.add (k * 5)).block]? = _; rw [hb]; exact hc)).trans hn.data⟩, fun ad e => ⟨Nat.lt_of_lt_of_le (h.2 ad e).1 hg.size, (h.2 ad e).2⟩⟩
theorem UpI.bears {LL : Bd} {w U2 : World} {A0 : Where} {V0 : Ns → Pl} {C1 : Option Addr} {L3 : List Nd} {ds : List Deferred} {X : Nat} (hI : LayI LL w A0 V0 U2) (hR : RdF U2 A0 C1 L3) (hM : Mk A0 w.heap.size ds U2) (hX : U2.heap.size + 1 ≤ X) :
    Bears (Its [U2.heap.size] (U2.heap.size + 1) X) (UpI LL w A0 V0 C1 L3 ds X) := by
  rintro pre W W' row ⟨A', h1, h2, h3, h4⟩ hg hr
  have hrow : ∀ r, row = some r → U2.heap.size ≤ r ∧ (r = U2.heap.size ∨ r < X) := fun r e => by
    rcases hr r e with h6 | h6
    · simp at h6; omega
    · omega
  have hno : ∀ k, Own A' k → some k ≠ row := fun k hk e => by
    have h6 := hr k e.symm
    have h7 := hrow k e.symm
    rcases h2.own hk with h | h
    · have := (hI.pt.lt h).2; omega
    · rcases h6 with h6 | h6
      · simp at h6; omega
      · omega
  have hbx := (Array.getElem?_eq_some_iff.1 hI.box).1
  refine ⟨A', ⟨h1.root, h1.pt.same fun k hk => hg.block k (h1.pt.lt hk).2 (hno k hk), (hg.block _ (Array.getElem?_eq_some_iff.1 h1.box).1 (fun e => by have := (hrow _ e.symm).1; omega)).trans h1.box, h1.nobox, h1.below.grown hg h1.below.size (fun r e => by have := (hrow r e).1; have := hI.below.size; omega)⟩, h2, h3.grown hg (fun ad e e2 => by have := (hrow _ e2.symm).1; have := (hR.2 ad e).1; omega), h4.grown hg (fun d hd D e e2 => ?_)⟩
  obtain ⟨D', e3, _, hc, _⟩ := hM.all d hd
  rw [e] at e3
  injection e3 with e3 _
  injection e3 with e3
  subst e3
  have := (hrow _ e2.symm).1
  have := hc.1
  omega
/-- The third loop's frame. -/
def layAct (a0 a1 a2 a3 a9 a59 a60 : Value) (u : Nat → Value) (j : Nat) (ds : List Deferred) : Act := { tmps := #[a0, a1, a2, a3, u 4, u 5, u 6, u 7, .pointer none, a9, u 10, u 11, u 12, u 13, u 14, u 15, u 16, u 17, u 18, u 19, u 20, u 21, u 22, u 23, u 24, u 25, u 26, u 27, u 28, u 29, u 30, u 31, u 32, u 33, u 34, u 35, u 36, u 37, u 38, u 39, u 40, u 41, u 42, u 43, u 44, u 45, u 46, u 47, u 48, u 49, u 50, u 51, u 52, u 53, u 54, u 55, u 56, u 57, u 58, a59, a60, .int .i64 j, u 62, u 63, u 64, u 65, u 66, u 67, u 68, u 69, u 70, u 71, u 72, u 73, u 74, u 75, u 76, u 77, u 78, u 79, u 80, u 81, u 82, u 83, u 84, u 85], defers := ds }
theorem layAct_idx (a0 a1 a2 a3 a9 a59 a60 : Value) (u : Nat → Value) (j : Nat) (ds : List Deferred) : (layAct a0 a1 a2 a3 a9 a59 a60 u j ds).tmps.getD 61 undef = .int .i64 j := rfl
theorem layAct_of (a : Act) (a0 a1 a2 a3 a9 a59 a60 : Value) (j : Nat) (h : a.tmps = (layAct a0 a1 a2 a3 a9 a59 a60 (fun k => a.tmps.getD k undef) j a.defers).tmps) : a = layAct a0 a1 a2 a3 a9 a59 a60 (fun k => a.tmps.getD k undef) j a.defers := by
  cases a
  unfold layAct at h ⊢
  simp only at h
  exact congrArg (fun t => ({ tmps := t, defers := _ } : Act)) h
theorem wpIn_layAct {F : Fence} {n : Nat} {P : Program} {c : Code} {Q : Exit → Act → World → Prop} {a : Act} {w : World} (a0 a1 a2 a3 a9 a59 a60 : Value) (j : Nat) (h : a.tmps = (layAct a0 a1 a2 a3 a9 a59 a60 (fun k => a.tmps.getD k undef) j a.defers).tmps)
    (hw : ∀ u : Nat → Value, u 77 = a.tmps.getD 77 undef → c.wpIn F n P Q (layAct a0 a1 a2 a3 a9 a59 a60 u j a.defers) w) : c.wpIn F n P Q a w := by
  rw [layAct_of a a0 a1 a2 a3 a9 a59 a60 j h]
  exact hw _ rfl
attribute [local go_sem] Oper.semAt_some
set_option maxHeartbeats 16000000 in
theorem lay_in (LL : Bd) (A : Option Addr) (S : List Nd) (c : Nat) (B : Option Addr) (D : List Nd) (d : Nat) (C : Option Addr) (R : List (Bool × ByteArray)) (f : Nat) (del : Bool) (w : World)
    (hA : RdN w w.heap.size A S) (hS : FewN S) (hSl : (S.length : Int) ≤ 1000) (hB : RdN w w.heap.size B D) (hD : FewN D) (hDl : (D.length : Int) ≤ 1000) (hR : RdR w w.heap.size C R) (hf : Few R) (hl : (R.length : Int) ≤ 1000000)
    (hL : LL.names.length < maxLen) (h0 : [] ∈ LL.paths) (hok : ∀ n, n ∈ S ∨ n ∈ D → NdOk LL n) :
    CallsIn Fence.wide 7 Tryz.prog 28 #[.slice A S.length c, .slice B D.length d, .slice C R.length f, .bool del] w (LayTo LL (layV (sentL (rulesL R) S) (shownL D) (guardL (rulesL R) D) del) w) := by
  obtain ⟨VV, hVV⟩ : ∃ VV, VV = (guardL (rulesL R) D).foldl setG ((shownL D).foldl (setD del) ((sentL (rulesL R) S).foldl setS fun _ => zeroPl)) := ⟨_, rfl⟩
  rw [show layV (sentL (rulesL R) S) (shownL D) (guardL (rulesL R) D) del = VV from hVV.symm]
  have HV := hide hVV
  clear hVV
  have HSe := hide (fun W (hb : Below w.heap.size w W) => sent_any A S c C R f W (hA.step hb) hS hSl (hR.step hb) hf hl)
  have HSh := hide (fun W (hb : Below w.heap.size w W) => shown_any B D d W (hB.step hb) hD hDl)
  have HGu := hide (fun W (hb : Below w.heap.size w W) => guard_any B D d C R f W (hB.step hb) hD hDl (hR.step hb) hf hl)
  have HOk := hide hok
  have HPt := hide (root_pt w LL h0)
  clear hA hB hR hok h0
  refine callsIn_of_wp_marks Tryz.func28 rfl trivial ?_ rfl
  simp only [Tryz.ntmps28, List.size_toArray, List.length_cons, List.length_nil, Nat.reduceAdd, Nat.reduceSub, Array.replicate_succ, Array.replicate_zero, List.push_toArray, List.append_toArray, List.nil_append, List.cons_append]
  gi_wp2_with fail
  refine ⟨trivial, (callsIn_wide.2 (empty_any _)).mono ?_⟩
  rintro e w1 ⟨rfl, hw1⟩
  rw [← hw1] at HPt
  have hz1 : w1.heap.size = w.heap.size + 2 := by rw [hw1]; simp
  have hB1 : Below w.heap.size w w1 := by rw [hw1]; exact ((Below.refl _ w).alloc (Nat.le_refl _) _).alloc (by simp) _
  have HZ := hide hz1
  have HB1 := hide hB1
  clear hw1 hz1 hB1
  gi_wp2_with fail
  have hI0 : LayI LL w (rootA (w.heap.size + 1) w.heap.size) (fun _ => zeroPl) (w1.alloc (.cells #[.pointer (some ⟨w.heap.size + 1, 0, none⟩)] 50)) := by
    have hb := (Below.refl w1.heap.size w1).alloc (Nat.le_refl _) (.cells #[.pointer (some ⟨w.heap.size + 1, 0, none⟩)] 50)
    refine ⟨rfl, HPt.out.step hb, ?_, fun ho => ?_, HB1.out.trans (hb.mono HB1.out.size)⟩
    · have h := World.alloc_heap_new w1 (Obj.cells #[.pointer (some ⟨w.heap.size + 1, 0, none⟩)] 50)
      rw [HZ.out] at h
      exact h
    · have := (HPt.out.lt ho).2
      rw [HZ.out] at this
      omega
  rw [HZ.out]
  generalize w1.alloc (.cells #[.pointer (some ⟨w.heap.size + 1, 0, none⟩)] 50) = w2 at hI0 ⊢
  have HI0 := hide hI0
  refine ⟨trivial, (callsIn_wide.2 (HSe.out w2 hI0.below)).mono ?_⟩
  rintro e w3 ⟨v, rfl, hN⟩
  obtain ⟨A1, c1, rfl⟩ := ownsRow_slice hN.own
  have HR := hide (RdF.made hI0.pt hN rfl)
  have HI := hide (hI0.step hN.below)
  have HOkS := hide (fun n (hn : n ∈ sentL (rulesL R) S) => HOk.out n (.inl (List.mem_filter.1 (List.mem_filter.1 hn).1).1))
  have hlen1 : ((sentL (rulesL R) S).length : Int) ≤ 1000 := by
    have h1 : (sentL (rulesL R) S).length ≤ S.length := Nat.le_trans (List.length_filter_le _ _) (List.length_filter_le _ _)
    omega
  clear hN hI0 HI0 HSe HPt HZ HB1
  generalize sentL (rulesL R) S = L1 at HR HI HOkS HV hlen1 ⊢
  gi_wp2_with fail
  gi_loopw [24] (fun iv wr => ∃ (j : Nat) (Aq : Where), j ≤ L1.length ∧ iv = .int .i64 j ∧ Hid (LayI LL w Aq ((L1.take j).foldl setS fun _ => zeroPl) wr) ∧ Hid (RdF wr Aq A1 L1)) (fun iv _ => L1.length - (intOf iv).toNat)
  case atStart => exact ⟨0, _, Nat.zero_le _, rfl, HI, HR⟩
  case round =>
    clear HI HR
    obtain ⟨j, Aq, hj, rfl, HI, HR⟩ := hrel
    by_cases hlt : (j : Int) < L1.length
    · obtain ⟨n, hn⟩ : ∃ n, L1[j]? = some n := ⟨_, List.getElem?_eq_getElem (by omega)⟩
      obtain ⟨ad, rfl, hlt2, hnd⟩ := HR.out.1 j n hn
      have hok := HOkS.out n (List.mem_of_getElem? hn)
      have HT := hide (show (L1.take (j + 1)).foldl setS (fun _ => zeroPl) = setS ((L1.take j).foldl setS fun _ => zeroPl) n by rw [List.take_add_one, hn]; simp)
      obtain ⟨c0, c1, c2, c3, c4⟩ := hnd
      have hbN := (Below.refl wr.heap.size wr).alloc (Nat.le_refl _) (.cells n.cells 36)
      have HN := hide (World.alloc_heap_new wr (Obj.cells n.cells 36))
      have HI2 := hide (HI.out.step hbN)
      have HR2 := hide (HR.out.below hbN)
      have HC2 := hide (show Clear Aq wr.heap.size (wr.alloc (.cells n.cells 36)) from ⟨by simp, fun ho => by have := (HI.out.pt.lt ho).2; omega⟩)
      have HOkn := hide hok
      obtain ⟨path, kind, mode, time, data⟩ := n
      simp only [Nd.cells] at c0 c1 c2 c3 c4 HN HI2 HR2 HC2
      clear hbN hok hn hlt2 HI HR
      gi_wp2_with fail
      generalize hw4 : wr.alloc (.cells #[.string path, .int .i64 kind, .int .i64 mode, .int .i64 time, .string data] 36) = w4 at HN HI2 HR2 HC2 ⊢
      clear hw4 c0 c1 c2 c3 c4
      obtain ⟨nb, hnb⟩ : ∃ nb, nb = wr.heap.size := ⟨_, rfl⟩
      rw [← hnb] at HN HC2 ⊢
      clear hnb
      have HS := hide (fun (W' : World) (h1 : W'.heap[w.heap.size + 2]? = some (.cells #[.pointer (some ⟨w.heap.size + 1, 0, none⟩)] 50 (0, 0))) (h2 : W'.heap[nb]? = some (.cells #[.string path, .int .i64 kind, .int .i64 mode, .int .i64 time, .string data] 36 (0, 0))) => (⟨cell_of_row _ _ 0 _ _ _ h1, cell_of_row _ _ 0 _ _ _ h2, cell_of_row _ _ 1 _ _ _ h2, cell_of_row _ _ 2 _ _ _ h2, cell_of_row _ _ 3 _ _ _ h2, cell_of_row _ _ 4 _ _ _ h2⟩ : W'.cell? ⟨w.heap.size + 2, 0, none⟩ = some (.pointer (some ⟨w.heap.size + 1, 0, none⟩)) ∧ W'.cell? ⟨nb, 0, none⟩ = some (.string path) ∧ W'.cell? ⟨nb, 1, none⟩ = some (.int .i64 kind) ∧ W'.cell? ⟨nb, 2, none⟩ = some (.int .i64 mode) ∧ W'.cell? ⟨nb, 3, none⟩ = some (.int .i64 time) ∧ W'.cell? ⟨nb, 4, none⟩ = some (.string data)))
      refine wpIn_wide.2 ?_
      refine wp_region_noPanic ?_
      refine wp_region_held (by kernel_rfl) (S := fun W' => W'.cell? ⟨w.heap.size + 2, 0, none⟩ = some (.pointer (some ⟨w.heap.size + 1, 0, none⟩)) ∧ W'.cell? ⟨nb, 0, none⟩ = some (.string path) ∧ W'.cell? ⟨nb, 1, none⟩ = some (.int .i64 kind) ∧ W'.cell? ⟨nb, 2, none⟩ = some (.int .i64 mode) ∧ W'.cell? ⟨nb, 3, none⟩ = some (.int .i64 time) ∧ W'.cell? ⟨nb, 4, none⟩ = some (.string data)) ?_
      change wpAnyH _ _ _ _ _ _ _ _ (World.drew _)
      have hb4 := (Below.refl w4.heap.size w4).drew
      have HI3 := hide (HI2.out.step hb4)
      have HR3 := hide (HR2.out.below hb4)
      have HC3 := hide (HC2.out.below hb4).1
      have HN3 := hide ((HC2.out.below hb4).2.trans HN.out)
      clear hb4 HI2 HR2 HC2 HN
      generalize World.drew w4 = U0 at HI3 HR3 HC3 HN3 ⊢
      have hS := HS.out U0 HI3.out.box HN3.out
      refine wpAnyH_take (i := 0) (v := .pointer (some ⟨w.heap.size + 1, 0, none⟩)) rfl (by kernel_rfl) (by kernel_rfl) (by kernel_rfl) (fun _ _ _ h => h) (Or.inl ⟨by kernel_rfl, ?_⟩) hS ?_
      · intro W' hS; obtain ⟨s0, s1, s2, s3, s4, s5⟩ := hS; go_simp; try with_reducible rfl
      try simp only [Act.put, List.getElem_toArray, List.getElem_cons_zero, List.setIfInBounds_toArray, List.set_cons_zero, List.set_cons_succ]
      refine wpAnyH_take (i := 1) (v := .pointer (some ⟨nb, 0, none⟩)) rfl (by kernel_rfl) (by kernel_rfl) (by kernel_rfl) (fun _ _ _ h => h) (Or.inl ⟨by kernel_rfl, ?_⟩) hS ?_
      · intro W' hS; obtain ⟨s0, s1, s2, s3, s4, s5⟩ := hS; go_simp; try with_reducible rfl
      try simp only [Act.put, List.getElem_toArray, List.getElem_cons_succ, List.getElem_cons_zero, List.setIfInBounds_toArray, List.set_cons_zero, List.set_cons_succ]
      refine wpAnyH_take (i := 2) (v := .string path) rfl (by kernel_rfl) (by kernel_rfl) (by kernel_rfl) (fun _ _ _ h => h) (Or.inl ⟨by kernel_rfl, ?_⟩) hS ?_
      · intro W' hS; obtain ⟨s0, s1, s2, s3, s4, s5⟩ := hS; go_simp; try with_reducible rfl
      try simp only [Act.put, List.getElem_toArray, List.getElem_cons_succ, List.getElem_cons_zero, List.setIfInBounds_toArray, List.set_cons_zero, List.set_cons_succ]
      refine wpAnyH_take (i := 4) (v := .agg #[.string path, .int .i64 kind, .int .i64 mode, .int .i64 time, .string data]) rfl (by kernel_rfl) (by kernel_rfl) (by kernel_rfl) (fun _ _ _ h => h) (Or.inl ⟨by kernel_rfl, ?_⟩) hS ?_
      · intro W' hS; obtain ⟨s0, s1, s2, s3, s4, s5⟩ := hS; go_simp; try with_reducible rfl
      try simp only [Act.put, List.getElem_toArray, List.getElem_cons_succ, List.getElem_cons_zero, List.setIfInBounds_toArray, List.set_cons_zero, List.set_cons_succ]
      clear hS
      have HAt := hide (at_any w.heap.size LL Aq _ [] (w.heap.size + 1, w.heap.size) path U0 HI3.out.pt HI3.out.root HOkn.out.path hL HOkn.out.names HOkn.out.paths)
      refine heldS_one (i := 3) (by kernel_rfl) rfl (fun K hK => ?_)
      go_simp
      refine HAt.out.mono ?_
      rintro e U1 ⟨A5, q5, rfl, hq5, hp5, hx5, hf5⟩
      have hI4 := HI3.out.turn hp5 hf5 hx5
      have hC4 := HC3.out.step hf5 hx5
      have hR4 := HR3.out.step hf5 hx5
      have hN4 := hC4.2.trans HN3.out
      refine hK _ _ (HS.out U1 hI4.box hN4) ?_
      clear hK K HAt HI3 HR3 HC3 HN3 hx5 hf5
      try simp only [Act.put, List.getElem_toArray, List.getElem_cons_succ, List.getElem_cons_zero, List.setIfInBounds_toArray, List.set_cons_zero, List.set_cons_succ]
      have hS := HS.out U1 hI4.box hN4
      refine wpAnyH_take (i := 5) (v := .pointer (some ⟨q5.1, 0, none⟩)) rfl (by kernel_rfl) (by kernel_rfl) (by kernel_rfl) (fun _ _ _ h => h) (Or.inl ⟨by kernel_rfl, ?_⟩) hS ?_
      · intro W' hS; obtain ⟨s0, s1, s2, s3, s4, s5⟩ := hS; go_simp; try with_reducible rfl
      try simp only [Act.put, List.getElem_toArray, List.getElem_cons_succ, List.getElem_cons_zero, List.setIfInBounds_toArray, List.set_cons_zero, List.set_cons_succ]
      refine wpAnyH_take (i := 6) (v := .pointer (some ⟨q5.1, 0, none⟩)) rfl (by kernel_rfl) (by kernel_rfl) (by kernel_rfl) (fun _ _ _ h => h) (Or.inl ⟨by kernel_rfl, ?_⟩) hS ?_
      · intro W' hS; obtain ⟨s0, s1, s2, s3, s4, s5⟩ := hS; go_simp; try with_reducible rfl
      try simp only [Act.put, List.getElem_toArray, List.getElem_cons_succ, List.getElem_cons_zero, List.setIfInBounds_toArray, List.set_cons_zero, List.set_cons_succ]
      clear hS
      have z0 := (hp5.at_ hq5 0 _ rfl)
      have z1 := (hp5.at_ hq5 1 _ rfl)
      have z2 := (hp5.at_ hq5 2 _ rfl)
      have z3 := (hp5.at_ hq5 3 _ rfl)
      have z4 := (hp5.at_ hq5 4 _ rfl)
      obtain ⟨y0, x0⟩ := z0
      obtain ⟨y1, x1⟩ := z1
      obtain ⟨y2, x2⟩ := z2
      obtain ⟨y3, x3⟩ := z3
      obtain ⟨y4, x4⟩ := z4
      obtain ⟨hp6, hf6⟩ := hp5.node hq5 ⟨path, kind, mode, time, data⟩
      have HI5 := hide (hI4.turn hp6 hf6 (Ext.refl A5 _))
      have HR5 := hide (hR4.step hf6 (Ext.refl A5 _))
      have HS5 := hide (HS.out _ HI5.out.box ((hC4.1.step hf6 (Ext.refl A5 _)).2.trans hN4))
      refine heldS_one (i := 7) (by kernel_rfl) rfl (fun K hK => ?_)
      clear hp6 hf6 hI4 hC4 hR4 hN4 hp5
      go_simp
      refine hK _ _ HS5.out ?_
      clear hK K y0 y1 y2 y3 y4 x0 x1 x2 x3 x4 HS5 HS
      try simp only [Act.put, List.getElem_toArray, List.getElem_cons_succ, List.getElem_cons_zero, List.setIfInBounds_toArray, List.set_cons_zero, List.set_cons_succ]
      refine wpAnyH_done (by kernel_rfl) ?_ _
      refine NoPanic.normal ?_
      gi_wp2_with fail
      go_roundw
      case rel => exact ⟨j + 1, A5, by omega, by go_num, by rw [HT.out]; exact HI5, HR5⟩
      case measure => simp [intOf]; omega
    · obtain rfl : j = L1.length := by omega
      rw [List.take_length] at HI
      have HPrev := hide HI.out.pt
      gi_wp2_with fail
      refine ⟨trivial, (callsIn_wide.2 (HSh.out wr HI.out.below)).mono ?_⟩
      rintro e w4 ⟨v, rfl, hN⟩
      obtain ⟨B1, d1, rfl⟩ := ownsRow_slice hN.own
      have HR2 := hide (RdF.made HI.out.pt hN rfl)
      have HI2 := hide (HI.out.step hN.below)
      have HOkD := hide (fun n (hn : n ∈ shownL D) => HOk.out n (.inr (List.mem_filter.1 hn).1))
      have hlen2 : ((shownL D).length : Int) ≤ 1000 := by
        have h1 : (shownL D).length ≤ D.length := List.length_filter_le _ _
        omega
      clear hN HI HR HPrev
      generalize shownL D = L2 at HR2 HI2 HOkD HV hlen2 ⊢
      generalize L1.foldl setS (fun _ => zeroPl) = V1 at HI2 HV ⊢
      gi_wp2_with fail
      gi_loopw [39] (fun iv wr => ∃ (j : Nat) (Aq : Where), j ≤ L2.length ∧ iv = .int .i64 j ∧ Hid (LayI LL w Aq ((L2.take j).foldl (setD del) V1) wr) ∧ Hid (RdF wr Aq B1 L2)) (fun iv _ => L2.length - (intOf iv).toNat)
      case atStart => exact ⟨0, _, Nat.zero_le _, rfl, HI2, HR2⟩
      case round =>
        clear HI2 HR2
        obtain ⟨j, Aq, hj, rfl, HI, HR⟩ := hrel
        by_cases hlt : (j : Int) < L2.length
        · obtain ⟨n, hn⟩ : ∃ n, L2[j]? = some n := ⟨_, List.getElem?_eq_getElem (by omega)⟩
          obtain ⟨ad, rfl, hlt2, hnd⟩ := HR.out.1 j n hn
          have hok := HOkD.out n (List.mem_of_getElem? hn)
          have HT := hide (show (L2.take (j + 1)).foldl (setD del) V1 = setD del ((L2.take j).foldl (setD del) V1) n by rw [List.take_add_one, hn]; simp)
          obtain ⟨c0, c1, c2, c3, c4⟩ := hnd
          have hbN := (Below.refl wr.heap.size wr).alloc (Nat.le_refl _) (.cells n.cells 36)
          have HN := hide (World.alloc_heap_new wr (Obj.cells n.cells 36))
          have HI2 := hide (HI.out.step hbN)
          have HR2 := hide (HR.out.below hbN)
          have HC2 := hide (show Clear Aq wr.heap.size (wr.alloc (.cells n.cells 36)) from ⟨by simp, fun ho => by have := (HI.out.pt.lt ho).2; omega⟩)
          have HOkn := hide hok
          obtain ⟨path, kind, mode, time, data⟩ := n
          simp only [Nd.cells] at c0 c1 c2 c3 c4 HN HI2 HR2 HC2
          clear hbN hok hn hlt2 HI HR
          have b0 := cell_of_row _ _ 0 _ _ _ HI2.out.box
          have HAt := hide (at_any w.heap.size LL Aq _ [] (w.heap.size + 1, w.heap.size) path _ HI2.out.pt HI2.out.root HOkn.out.path hL HOkn.out.names HOkn.out.paths)
          gi_wp2_with fail
          refine ⟨trivial, (callsIn_wide.2 HAt.out).mono ?_⟩
          clear c0 c1 c2 c3 c4
          generalize hw4 : wr.alloc (.cells #[.string path, .int .i64 kind, .int .i64 mode, .int .i64 time, .string data] 36) = w5 at HN HI2 HR2 HC2 HAt b0 ⊢
          clear hw4
          obtain ⟨nb, hnb⟩ : ∃ nb, nb = wr.heap.size := ⟨_, rfl⟩
          rw [← hnb] at HN HC2 ⊢
          clear hnb
          rintro e U1 ⟨A5, q5, rfl, hq5, hp5, hx5, hf5⟩
          have hI4 := HI2.out.turn hp5 hf5 hx5
          have hC4 := HC2.out.step hf5 hx5
          have hR4 := HR2.out.step hf5 hx5
          have hN4 := hC4.2.trans HN.out
          clear b0
          have c0 := cell_of_row _ _ 0 _ _ _ hN4
          have c1 := cell_of_row _ _ 1 _ _ _ hN4
          have c2 := cell_of_row _ _ 2 _ _ _ hN4
          have c3 := cell_of_row _ _ 3 _ _ _ hN4
          have c4 := cell_of_row _ _ 4 _ _ _ hN4
          obtain ⟨y5, x5⟩ := hp5.at_ hq5 5 _ rfl
          obtain ⟨y6, x6⟩ := hp5.at_ hq5 6 _ rfl
          obtain ⟨y7, x7⟩ := hp5.at_ hq5 7 _ rfl
          obtain ⟨y8, x8⟩ := hp5.at_ hq5 8 _ rfl
          obtain ⟨y9, x9⟩ := hp5.at_ hq5 9 _ rfl
          obtain ⟨y11, x11⟩ := hp5.at_ hq5 11 _ rfl
          obtain ⟨hp6, hf6⟩ := hp5.nodeD hq5 ⟨path, kind, mode, time, data⟩ (!del)
          have HI5 := hide (hI4.turn hp6 hf6 (Ext.refl A5 _))
          have HR5 := hide (hR4.step hf6 (Ext.refl A5 _))
          clear hp6 hf6 hI4 hC4 hR4 hN4 hp5 HAt HI2 HR2 HC2 HN hx5 hf5
          gi_wp2_with fail
          go_roundw
          case rel => exact ⟨j + 1, A5, by omega, by go_num, by rw [HT.out]; exact HI5, HR5⟩
          case measure => simp [intOf]; omega
        · obtain rfl : j = L2.length := by omega
          rw [List.take_length] at HI
          gi_wp2_with fail
          refine ⟨trivial, (callsIn_wide.2 (HGu.out wr HI.out.below)).mono ?_⟩
          rintro e w6 ⟨v, rfl, hN⟩
          obtain ⟨C1, f1, rfl⟩ := ownsRow_slice hN.own
          have HR2 := hide (RdF.made HI.out.pt hN rfl)
          have HI2 := hide (HI.out.step hN.below)
          have HOkG := hide (fun n (hn : n ∈ guardL (rulesL R) D) => HOk.out n (.inr (List.mem_filter.1 (List.mem_filter.1 hn).1).1))
          have hlen3 : ((guardL (rulesL R) D).length : Int) ≤ 1000 := by
            have h1 : (guardL (rulesL R) D).length ≤ D.length := Nat.le_trans (List.length_filter_le _ _) (List.length_filter_le _ _)
            omega
          clear hN HI HR
          generalize guardL (rulesL R) D = L3 at HR2 HI2 HOkG HV hlen3 ⊢
          generalize L2.foldl (setD del) V1 = V2 at HI2 HV ⊢
          gi_wp2_with fail
          refine wpIn_loop (fun a W => ∃ (j : Nat) (Aq : Where) (ds : List Deferred) (u : Nat → Value), a = layAct (.slice A S.length c) (.slice B D.length d) (.slice C R.length f) (.bool del) (.pointer (some ⟨w.heap.size + 2, 0, none⟩)) (.slice C1 L3.length f1) (.int .i64 L3.length) u j ds ∧ j ≤ L3.length ∧ Hid (LayI LL w Aq ((L3.take j).foldl setG V2) W) ∧ Hid (RdF W Aq C1 L3) ∧ Hid (Mk Aq w.heap.size ds W)) (fun a _ => L3.length - (intOf (a.tmps.getD 61 undef)).toNat) ?h0 ?round
          case h0 =>
            exact ⟨0, _, [], _, layAct_of _ _ _ _ _ _ _ _ 0 rfl, Nat.zero_le _, HI2, HR2, hide (Mk.nil _ _ _)⟩
          case round =>
            clear HI2 HR2
            rintro a wr ⟨j, Aq, ds, u, rfl, hj, HI, HR, HM⟩
            rw [layAct_idx]
            by_cases hlt : (j : Int) < L3.length
            · obtain ⟨n, hn⟩ : ∃ n, L3[j]? = some n := ⟨_, List.getElem?_eq_getElem (by omega)⟩
              obtain ⟨ad, rfl, hlt2, hnd⟩ := HR.out.1 j n hn
              have hok := HOkG.out n (List.mem_of_getElem? hn)
              have HT := hide (show (L3.take (j + 1)).foldl setG V2 = setG ((L3.take j).foldl setG V2) n by rw [List.take_add_one, hn]; simp)
              obtain ⟨c0, c1, c2, c3, c4⟩ := hnd
              have hbN := (Below.refl wr.heap.size wr).alloc (Nat.le_refl _) (.cells n.cells 36)
              have HN := hide (World.alloc_heap_new wr (Obj.cells n.cells 36))
              have HI2 := hide (HI.out.step hbN)
              have HR2 := hide (HR.out.below hbN)
              have HM2 := hide (HM.out.below hbN)
              have HC2 := hide (show Clear Aq wr.heap.size (wr.alloc (.cells n.cells 36)) from ⟨by simp, fun ho => by have := (HI.out.pt.lt ho).2; omega⟩)
              have HOkn := hide hok
              obtain ⟨path, kind, mode, time, data⟩ := n
              simp only [Nd.cells] at c0 c1 c2 c3 c4 HN HI2 HR2 HC2 HM2
              clear hbN hok hn hlt2 HI HR HM
              have b0 := cell_of_row _ _ 0 _ _ _ HI2.out.box
              have HAt := hide (at_any w.heap.size LL Aq _ [] (w.heap.size + 1, w.heap.size) path _ HI2.out.pt HI2.out.root HOkn.out.path hL HOkn.out.names HOkn.out.paths)
              unfold layAct
              gi_wp2_with fail
              refine ⟨trivial, (callsIn_wide.2 HAt.out).mono ?_⟩
              clear c0 c1 c2 c3 c4
              generalize hw4 : wr.alloc (.cells #[.string path, .int .i64 kind, .int .i64 mode, .int .i64 time, .string data] 36) = w5 at HN HI2 HR2 HC2 HM2 HAt b0 ⊢
              clear hw4
              obtain ⟨nb, hnb⟩ : ∃ nb, nb = wr.heap.size := ⟨_, rfl⟩
              rw [← hnb] at HN HC2 ⊢
              clear hnb
              rintro e U1 ⟨A5, q5, rfl, hq5, hp5, hx5, hf5⟩
              have hI4 := HI2.out.turn hp5 hf5 hx5
              have hC4 := HC2.out.step hf5 hx5
              have hR4 := HR2.out.step hf5 hx5
              have hM4 := HM2.out.step hf5 hx5
              have hN4 := hC4.2.trans HN.out
              clear b0
              obtain ⟨y10, x10⟩ := hp5.at_ hq5 10 _ rfl
              obtain ⟨y11, x11⟩ := hp5.at_ hq5 11 _ rfl
              obtain ⟨hp6, hf6⟩ := hp5.guard hq5
              have HI5 := hide (hI4.turn hp6 hf6 (Ext.refl A5 _))
              have HR5 := hide (hR4.step hf6 (Ext.refl A5 _))
              have HM5 := hide (hM4.step hf6 (Ext.refl A5 _))
              have HN5 := hide ((hC4.1.step hf6 (Ext.refl A5 _)).2.trans hN4)
              have c0 := cell_of_row _ _ 0 _ _ _ HN5.out
              clear hp6 hf6 hI4 hC4 hR4 hM4 hN4 hp5 HAt HI2 HR2 HC2 HM2 HN hx5 hf5 hq5
              gi_wp2_with fail
              clear y10 y11 x10 x11 c0
              generalize hU2 : (U1.setCell ⟨q5.1, 10, none⟩ (.bool true)).setCell ⟨q5.1, 11, none⟩ (.bool true) = U2 at HI5 HR5 HM5 HN5 ⊢
              clear hU2
              have HI6 := hide (show LayI LL w A5 (updV ((L3.take j).foldl setG V2) (nmN ⟨path, kind, mode, time, data⟩) fun v => { v with shut := true, left := true }) U2 from HI5.out)
              have HT2 := hide (show (L3.take (j + 1)).foldl setG V2 = (upsL (toL path)).foldl setL (updV ((L3.take j).foldl setG V2) (nmN ⟨path, kind, mode, time, data⟩) fun v => { v with shut := true, left := true }) from HT.out)
              clear HI5 HT
              generalize (updV ((L3.take j).foldl setG V2) (nmN ⟨path, kind, mode, time, data⟩) fun v => { v with shut := true, left := true }) = V0 at HI6 HT2
              refine ⟨trivial, (callsIn_wide.2 (ups_any path _)).mono ?_⟩
              rintro e w8 ⟨rfl, hw8⟩
              have hb8 : Below U2.heap.size U2 w8 := by rw [hw8]; exact (Below.refl _ U2).alloc (Nat.le_refl _) _
              have hz8 : w8.heap.size = U2.heap.size + 1 := by rw [hw8]; simp
              have r8 : w8.heap[U2.heap.size]? = some (.cells #[.string path] 9 (0, 0)) := by rw [hw8]; exact World.alloc_heap_new _ _
              clear hw8
              have hpp : (path.size : Int) ≤ 1000000 := HOkn.out.path
              gi_wp2_with fail
              refine wpIn_layAct (.slice A S.length c) (.slice B D.length d) (.slice C R.length f) (.bool del) (.pointer (some ⟨w.heap.size + 2, 0, none⟩)) (.slice (some ad) L3.length f1) (.int .i64 L3.length) j rfl ?_
              intro u hu
              have HU := hide (show u 77 = .func (.func 69) #[] #[.pointer (some ⟨U2.heap.size, 0, none⟩)] from hu)
              clear hu
              unfold layAct
              refine wpIn_rangeT (α := ByteArray) (encs := fun x : ByteArray => #[.string x]) rfl (by omega) (gf := 69) (lb := #[.pointer (some ⟨U2.heap.size, 0, none⟩)]) HU.out trivial
                (enters_of Tryz.func69 (by kernel_rfl) rfl) (L := [U2.heap.size]) (by intro k hk; simp at hk; omega)
                (ups_seq 6 U2.heap.size path w8 (by omega) (by omega) r8) (fun _ => rfl)
                (fun X pre W => Hid (UpI LL w A5 V0 (some ad) L3 ds X pre W)) (fun _ _ _ _ => False)
                ?hI (fun X c hX => fun _ _ _ _ h => h.elim) ?hz (fun x => { tmps := #[.slice A S.length c, .slice B D.length d, .slice C R.length f, .bool del, u 4, u 5, u 6, u 7, .pointer none, .pointer (some ⟨w.heap.size + 2, 0, none⟩), u 10, u 11, u 12, u 13, u 14, u 15, u 16, u 17, .string x, u 19, u 20, u 21, u 22, u 23, u 24, u 25, u 26, u 27, u 28, u 29, u 30, u 31, u 32, u 33, u 34, u 35, u 36, u 37, u 38, u 39, u 40, u 41, u 42, u 43, u 44, u 45, u 46, u 47, u 48, u 49, u 50, u 51, u 52, u 53, u 54, u 55, u 56, u 57, u 58, .slice (some ad) L3.length f1, .int .i64 L3.length, .int .i64 j, u 62, u 63, u 64, u 65, u 66, u 67, u 68, u 69, u 70, u 71, u 72, u 73, u 74, u 75, u 76, u 77, .string x, u 79, u 80, u 81, u 82, u 83, u 84, u 85], defers := [] }) ?assign ?body ?done ?stop
              case hI =>
                intro X hX
                rw [hz8]
                exact UpI.bears HI6.out HR5.out HM5.out (by omega)
              case hz =>
                intro X hX
                exact ⟨A5, HI6.out.step hb8, Ext.refl A5 X, HR5.out.below hb8, HM5.out.below hb8⟩
              case assign =>
                intro l x W K hK
                gi_wp2
                exact hK
              case body =>
                rintro X ll pre x W hX hXW HU2 hpre
                obtain ⟨A6, h1, h2, h3, h4⟩ := HU2.out
                have hmem : toL x ∈ upsL (toL path) := by
                  have := hpre.subset (show toL x ∈ (pre ++ [x]).map toL by simp)
                  exact this
                obtain ⟨hxp, hxn, hxt⟩ := HOkn.out.up x hmem
                have hFold : ((pre ++ [x]).map toL).foldl setL V0 = setL ((pre.map toL).foldl setL V0) (toL x) := by rw [List.map_append, List.foldl_append]; rfl
                have HAt := hide (at_any w.heap.size LL A6 _ [] (w.heap.size + 1, w.heap.size) x W h1.pt h1.root hxp hL hxn hxt)
                have b0 := cell_of_row _ _ 0 _ _ _ h1.box
                have HK1 := hide (And.intro h1 (And.intro h2 (And.intro h3 h4)))
                have HX := hide (And.intro hX (And.intro hXW hz8))
                have HFo := hide hFold
                clear h1 h2 h3 h4 HU2 hpre hmem hxp hxn hxt hX hXW hz8 hFold hb8 r8
                gi_wp2_with fail
                refine ⟨trivial, (CallsIn.inRound ll (callsIn_wide.2 HAt.out)).mono ?_⟩
                rintro e U3 ⟨A7, q7, rfl, hq7, hp7, hx7, hf7⟩
                obtain ⟨y11, x11⟩ := hp7.at_ hq7 11 _ rfl
                obtain ⟨hp8, hf8⟩ := hp7.leave hq7
                obtain ⟨k1, k2, k3, k4⟩ := HK1.out
                obtain ⟨hX, hXW, hz8⟩ := HX.out
                have hFx := hf7.trans hf8 hx7
                have HN6 := hide (show UpI LL w A5 V0 (some ad) L3 ds X (pre ++ [x]) (U3.setCell ⟨q7.1, 11, none⟩ (.bool true)) from
                  ⟨A7, by rw [HFo.out]; exact k1.turn hp8 hFx hx7, k2.trans hx7 (by omega), k3.step hFx hx7, k4.step hFx hx7⟩)
                have HLi := hide (show Lies (Its [U2.heap.size] w8.heap.size X) W (U3.setCell ⟨q7.1, 11, none⟩ (.bool true)) from ⟨hFx.size, fun k hk => hFx.block k (by
                  rcases hk with hk | hk
                  · simp at hk; omega
                  · omega) (fun ho => by
                  rcases k2.own ho with h | h
                  · have := (HI6.out.pt.lt h).2
                    rcases hk with hk | hk
                    · simp at hk; omega
                    · omega
                  · rcases hk with hk | hk
                    · simp at hk; omega
                    · omega)⟩)
                clear k1 k2 k3 k4 hX hXW hz8 hFx hp7 hx7 hf7 hp8 hf8 HK1 HAt b0
                gi_wp2_with fail
                exact ⟨HLi.out, HN6.out⟩
              case done =>
                rintro X E xs W hX hD hDX hS HU2 hK
                obtain ⟨A6, h1, h2, h3, h4⟩ := HU2.out
                rw [hS, ← HT2.out] at h1
                have hno : ¬ Own A6 E := fun ho => by
                  rcases h2.own ho with h | h
                  · have := (HI6.out.pt.lt h).2; omega
                  · omega
                have HM6 := hide (h4.more (D := E) (by have := HI6.out.below.size; omega) ⟨(Array.getElem?_eq_some_iff.1 hK).1, hno⟩ hK (fun d hd e => by
                  obtain ⟨D', e3, _, hc, _⟩ := HM5.out.all d hd
                  rw [e] at e3
                  injection e3 with e3 _
                  injection e3 with e3
                  have := hc.1
                  omega))
                have HI7 := hide h1
                have HR7 := hide h3
                clear h1 h2 h3 h4 HU2 hS hK hX hD hDX hno hz8 hb8 r8
                gi_wp2_with fail
                refine ⟨⟨j + 1, A6, { target := .collected E, args := #[] } :: ds, fun k => if k = 84 then .int .i64 ((j : Int) + 1) else u k, ?_, by omega, HI7, HR7, HM6⟩, ?_⟩
                · rfl
                show L3.length - (intOf (.int .i64 ((j : Int) + 1))).toNat < _
                simp [intOf]
                omega
              case stop => exact fun _ _ _ _ _ _ _ _ _ h => h.elim
            · obtain rfl : j = L3.length := by omega
              rw [List.take_length] at HI
              unfold layAct
              have b0 := cell_of_row _ _ 0 _ _ _ HI.out.box
              gi_wp2_with fail
              exact leaves_marks ds wr HM.out ⟨HI.out.pt, HI.out.below⟩ (fun W' hF => ⟨_, results_tmp rfl _ _ _, Aq, _, rfl, HI.out.root, by rw [HV.out]; exact hF.1, hF.2⟩)
theorem lay_any (LL : Bd) (A : Option Addr) (S : List Nd) (c : Nat) (B : Option Addr) (D : List Nd) (d : Nat) (C : Option Addr) (R : List (Bool × ByteArray)) (f : Nat) (del : Bool) (w : World)
    (hA : RdN w w.heap.size A S) (hS : FewN S) (hSl : (S.length : Int) ≤ 1000) (hB : RdN w w.heap.size B D) (hD : FewN D) (hDl : (D.length : Int) ≤ 1000) (hR : RdR w w.heap.size C R) (hf : Few R) (hl : (R.length : Int) ≤ 1000000)
    (hL : LL.names.length < maxLen) (h0 : [] ∈ LL.paths) (hok : ∀ n, n ∈ S ∨ n ∈ D → NdOk LL n) :
    Calls Tryz.prog 28 #[.slice A S.length c, .slice B D.length d, .slice C R.length f, .bool del] w (LayTo LL (layV (sentL (rulesL R) S) (shownL D) (guardL (rulesL R) D) del) w) :=
  callsIn_wide.1 (lay_in LL A S c B D d C R f del w hA hS hSl hB hD hDl hR hf hl hL h0 hok)
end Go.Proofs.YteoafohebgfjdaaGreatDoor
