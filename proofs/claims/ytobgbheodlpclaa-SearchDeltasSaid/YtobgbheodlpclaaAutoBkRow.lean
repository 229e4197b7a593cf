/-
  Texts that belong together: BkSign, BkRow.
-/
import Derived.Test.YtobgbheodlpclaaAutoMixRef
import Derived.Test.YtobgbheodlpclaaMixRefOf
import Derived.Test.YtobgbheodlpclaaAutoRollOf
import Derived.Test.YtobgbheodlpclaaBkCount
import Derived.Laws.AppendOwnNone
import Derived.Deep.LoopGhost
import Derived.Deep.DeepCutAuto
/-
  A text's two sums: block.SignOf and the reference's.
-/
namespace Go.Proofs.Ytobgbheodlpclaa
open Go.RowKit
set_option maxRecDepth 100000

/-- A sign. -/
structure Sg where
  weak : Nat
  hi : Nat
  lo : Nat
def Sg.cells (s : Sg) : Array Value := #[.int .u32 (s.weak : Nat), .int .u64 (s.hi : Nat), .int .u64 (s.lo : Nat)]
/-- Its numbers fit. -/
def Sg.fits (s : Sg) : Prop := s.weak < 4294967296 ∧ s.hi < 18446744073709551616 ∧ s.lo < 18446744073709551616
/-- The sign of a text. -/
def signL (l : List UInt8) : Sg := ⟨weakN l, (sumL l).1, (sumL l).2⟩
theorem row_sign (w : World) (n : Nat) (a b c x y z : Value) (t : TypeId) (h : w.heap[n]? = some (.cells #[a, b, c] t (0, 0))) :
    (((w.setCell ⟨n, 0, none⟩ x).setCell ⟨n, 1, none⟩ y).setCell ⟨n, 2, none⟩ z).cell? ⟨n, 0, none⟩ = some x ∧ (((w.setCell ⟨n, 0, none⟩ x).setCell ⟨n, 1, none⟩ y).setCell ⟨n, 2, none⟩ z).cell? ⟨n, 1, none⟩ = some y ∧ (((w.setCell ⟨n, 0, none⟩ x).setCell ⟨n, 1, none⟩ y).setCell ⟨n, 2, none⟩ z).cell? ⟨n, 2, none⟩ = some z := by
  have hfin := heap_setCell_same _ n 2 _ _ z (heap_setCell_same _ n 1 _ _ y (heap_setCell_same w n 0 _ _ x h))
  exact ⟨cell_of_row _ _ _ _ _ _ hfin, cell_of_row _ _ _ _ _ _ hfin, cell_of_row _ _ _ _ _ _ hfin⟩

set_option maxHeartbeats 4000000 in
theorem signOf_any (A : Option Addr) (l : List UInt8) (c : Nat) (w : World) (hR : RdB w w.heap.size A l) (hc : l.length ≤ c) (hl : l.length ≤ 1000000) :
    Calls Try.prog 18 #[.slice A l.length c] w fun e w' => e = .returned (.agg (signL l).cells) ∧ Below w.heap.size w w' := by
  have hb0 := (Below.refl w.heap.size w).alloc (Nat.le_refl _) (.cells #[.int .u32 0, .int .u64 0, .int .u64 0] 30)
  have hrow := World.alloc_heap_new w (Obj.cells #[.int .u32 0, .int .u64 0, .int .u64 0] 30)
  have HW := hide (fun (W : World) (h : Below w.heap.size w W) => rollOf_any A l c W (hR.step h) hl)
  have HM := hide (fun (W : World) (h : Below w.heap.size w W) => of_any A l c W (hR.step h) hc hl)
  have hV : signL l = ⟨weakN l, (sumL l).1, (sumL l).2⟩ := rfl
  generalize signL l = V at hV ⊢
  generalize weakN l = wk at HW hV
  generalize sumL l = sm at HM hV
  obtain ⟨h1, h2⟩ := sm
  simp only at hV
  subst hV
  simp only [stV, Sg.cells] at HM ⊢
  have HB0 := hide hb0
  clear hR hb0
  go_enter Try.func18, Try.ntmps18
  go_wp2_with fail
  refine (HW.out _ HB0.out).mono ?_
  rintro e w1 ⟨rfl, hb1⟩
  have HB1 := hide (HB0.out.trans (hb1.mono HB0.out.size))
  have s1 := (hb1.block w.heap.size (by simp)).trans hrow
  clear hb1 hrow HB0
  go_wp2_with fail
  refine (HM.out _ HB1.out).mono ?_
  rintro e w2 ⟨rfl, hb2⟩
  have HB2 := hide (HB1.out.trans (hb2.mono HB1.out.size))
  have s2 := (hb2.block w.heap.size (Array.getElem?_eq_some_iff.1 s1).1).trans s1
  have z0 : w2.frozen? ⟨w.heap.size, 0, none⟩ = false := frozen_of_row _ _ _ _ _ s2
  have z1 : w2.frozen? ⟨w.heap.size, 1, none⟩ = false := frozen_of_row _ _ _ _ _ s2
  have z2 : w2.frozen? ⟨w.heap.size, 2, none⟩ = false := frozen_of_row _ _ _ _ _ s2
  have k0 : w2.cell? ⟨w.heap.size, 0, none⟩ = some (.int .u32 0) := cell_of_row _ _ _ _ _ _ s2
  have k1 : w2.cell? ⟨w.heap.size, 1, none⟩ = some (.int .u64 0) := cell_of_row _ _ _ _ _ _ s2
  have k2 : w2.cell? ⟨w.heap.size, 2, none⟩ = some (.int .u64 0) := cell_of_row _ _ _ _ _ _ s2
  have HX := hide (row_sign w2 w.heap.size _ _ _ (.int .u32 (wk : Nat)) (.int .u64 (h1 : Nat)) (.int .u64 (h2 : Nat)) _ s2)
  have HY := hide (((HB2.out.setCell (p := ⟨w.heap.size, 0, none⟩) (Nat.le_refl _) (.int .u32 (wk : Nat))).setCell (p := ⟨w.heap.size, 1, none⟩) (Nat.le_refl _) (.int .u64 (h1 : Nat))).setCell (p := ⟨w.heap.size, 2, none⟩) (Nat.le_refl _) (.int .u64 (h2 : Nat)))
  clear hb2 s1 s2 HB1 HB2 HW HM
  go_wp2_with fail
  obtain ⟨y0, y1, y2⟩ := HX.out
  refine bodyPost_ret (v := .agg #[.int .u32 (wk : Nat), .int .u64 (h1 : Nat), .int .u64 (h2 : Nat)]) (by simp [results, Try.results18, go_sem, y0, y1, y2]) rfl ⟨rfl, HY.out⟩

set_option maxHeartbeats 4000000 in
theorem refSignOf_any (l : List UInt8) (w : World) (hl : l.length ≤ 1000000) :
    Calls Try.prog 19 #[.string (ofL l)] w fun e w' => e = .returned (.agg (signL l).cells) ∧ Below w.heap.size w w' := by
  have hb0 := (Below.refl w.heap.size w).alloc (Nat.le_refl _) (.cells #[.int .u32 0, .int .u64 0, .int .u64 0] 37)
  have hrow := World.alloc_heap_new w (Obj.cells #[.int .u32 0, .int .u64 0, .int .u64 0] 37)
  have HW := hide (fun (W : World) => refWeak_any l W hl)
  have HM := hide (fun (W : World) => refOf_any l W hl)
  have hV : signL l = ⟨weakN l, (sumL l).1, (sumL l).2⟩ := rfl
  generalize signL l = V at hV ⊢
  generalize weakN l = wk at HW hV
  generalize sumL l = sm at HM hV
  obtain ⟨h1, h2⟩ := sm
  simp only at hV
  subst hV
  simp only [stV, Sg.cells] at HM ⊢
  have HB0 := hide hb0
  clear hb0
  go_enter Try.func19, Try.ntmps19
  go_wp2_with fail
  refine (HW.out _).mono ?_
  rintro e w1 ⟨rfl, rfl⟩
  go_wp2_with fail
  refine (HM.out _).mono ?_
  rintro e w2 ⟨rfl, hb2⟩
  have HB2 := hide (HB0.out.trans (hb2.mono HB0.out.size))
  have s2 := (hb2.block w.heap.size (by simp)).trans hrow
  have z0 : w2.frozen? ⟨w.heap.size, 0, none⟩ = false := frozen_of_row _ _ _ _ _ s2
  have z1 : w2.frozen? ⟨w.heap.size, 1, none⟩ = false := frozen_of_row _ _ _ _ _ s2
  have z2 : w2.frozen? ⟨w.heap.size, 2, none⟩ = false := frozen_of_row _ _ _ _ _ s2
  have k0 : w2.cell? ⟨w.heap.size, 0, none⟩ = some (.int .u32 0) := cell_of_row _ _ _ _ _ _ s2
  have k1 : w2.cell? ⟨w.heap.size, 1, none⟩ = some (.int .u64 0) := cell_of_row _ _ _ _ _ _ s2
  have k2 : w2.cell? ⟨w.heap.size, 2, none⟩ = some (.int .u64 0) := cell_of_row _ _ _ _ _ _ s2
  have HX := hide (row_sign w2 w.heap.size _ _ _ (.int .u32 (wk : Nat)) (.int .u64 (h1 : Nat)) (.int .u64 (h2 : Nat)) _ s2)
  have HY := hide (((HB2.out.setCell (p := ⟨w.heap.size, 0, none⟩) (Nat.le_refl _) (.int .u32 (wk : Nat))).setCell (p := ⟨w.heap.size, 1, none⟩) (Nat.le_refl _) (.int .u64 (h1 : Nat))).setCell (p := ⟨w.heap.size, 2, none⟩) (Nat.le_refl _) (.int .u64 (h2 : Nat)))
  clear hb2 s2 HB0 HB2 HW HM hrow
  go_wp2_with fail
  obtain ⟨y0, y1, y2⟩ := HX.out
  refine bodyPost_ret (v := .agg #[.int .u32 (wk : Nat), .int .u64 (h1 : Nat), .int .u64 (h2 : Nat)]) (by simp [results, Try.results19, go_sem, y0, y1, y2]) rfl ⟨rfl, HY.out⟩
end Go.Proofs.Ytobgbheodlpclaa
/-
  Signs that lie at an address, one behind the other; rows of signs of the call's own.
-/
namespace Go.Proofs.Ytobgbheodlpclaa
open Go.RowKit
set_option maxRecDepth 100000

/-- A tign's three cells, at an address. -/
structure SgAt (w : World) (ad : Addr) (n : Sg) : Prop where
  weak : w.cell? ad = some (.int .u32 (n.weak : Nat))
  hi : w.cell? ⟨ad.block, ad.off + 1, none⟩ = some (.int .u64 (n.hi : Nat))
  lo : w.cell? ⟨ad.block, ad.off + 2, none⟩ = some (.int .u64 (n.lo : Nat))
theorem SgAt.below {w w' : World} {B : Nat} {ad : Addr} {n : Sg} (h : SgAt w ad n) (hb : Below B w w') (hB : ad.block < B) : SgAt w' ad n :=
  ⟨(hb.cell hB).trans h.weak, (hb.cell (p := ⟨ad.block, _, none⟩) hB).trans h.hi, (hb.cell (p := ⟨ad.block, _, none⟩) hB).trans h.lo⟩
/-- Tigns that lie at an address, one behind the other, below block B. -/
def RdSg (w : World) (B : Nat) (A : Option Addr) (l : List Sg) : Prop :=
  ∀ k n, l[k]? = some n → ∃ ad : Addr, A = some ad ∧ ad.block < B ∧ SgAt w (ad.add (k * 3)) n
theorem RdSg.below {w w' : World} {B B' : Nat} {A : Option Addr} {l : List Sg} (h : RdSg w B A l) (hb : Below B' w w') (hB : B ≤ B') : RdSg w' B A l := fun k x hx => by
  obtain ⟨ad, e, hlt, h0⟩ := h k x hx
  exact ⟨ad, e, hlt, h0.below hb (by rw [add_block]; omega)⟩
theorem RdSg.mono {w : World} {B B' : Nat} {A : Option Addr} {l : List Sg} (h : RdSg w B A l) (hB : B ≤ B') : RdSg w B' A l := fun k x hx => by
  obtain ⟨ad, e, hlt, hc⟩ := h k x hx
  exact ⟨ad, e, by omega, hc⟩
theorem RdSg.step {w w' : World} {A : Option Addr} {l : List Sg} (h : RdSg w w.heap.size A l) (hb : Below w.heap.size w w') : RdSg w' w'.heap.size A l := (h.below hb (Nat.le_refl _)).mono hb.size
theorem RdSg.nil (w : World) (B : Nat) (A : Option Addr) : RdSg w B A [] := fun k x hx => by simp at hx
theorem RdSg.of_none {w : World} {B : Nat} {l : List Sg} (h : RdSg w B none l) : l = [] := by
  cases l with
  | nil => rfl
  | cons y r => obtain ⟨ad, e', _⟩ := h 0 y rfl; cases e'

/-- Tigns' cells. -/
def cellsSg (l : List Sg) : List Value := l.flatMap fun n => n.cells.toList
theorem cellsSg_app (l m : List Sg) : cellsSg (l ++ m) = cellsSg l ++ cellsSg m := by simp [cellsSg]
theorem cellsSg_snoc (l : List Sg) (n : Sg) : cellsSg (l ++ [n]) = cellsSg l ++ [.int .u32 (n.weak : Nat), .int .u64 (n.hi : Nat), .int .u64 (n.lo : Nat)] := by simp [cellsSg, Sg.cells]
theorem cellsSg_len : ∀ l : List Sg, (cellsSg l).length = l.length * 3
  | [] => rfl
  | n :: l => by
    show (n.cells.toList ++ cellsSg l).length = _
    rw [List.length_append, cellsSg_len l, List.length_cons]
    show 3 + _ = _
    omega
theorem cellsSg_get : ∀ (l : List Sg) (k : Nat) (n : Sg), l[k]? = some n → (cellsSg l)[k * 3]? = some (.int .u32 (n.weak : Nat)) ∧ (cellsSg l)[k * 3 + 1]? = some (.int .u64 (n.hi : Nat)) ∧ (cellsSg l)[k * 3 + 2]? = some (.int .u64 (n.lo : Nat))
  | [], k, n, h => by simp at h
  | u :: l, 0, n, h => by
    simp at h
    subst h
    exact ⟨rfl, rfl, rfl⟩
  | u :: l, k + 1, n, h => by
    have e : ∀ j, (cellsSg (u :: l))[3 + j]? = (cellsSg l)[j]? := fun j => by
      show (u.cells.toList ++ cellsSg l)[3 + j]? = _
      rw [List.getElem?_append_right (by show 3 ≤ _; omega)]
      congr 1
      show 3 + j - 3 = j
      omega
    obtain ⟨h1, h2, h3⟩ := cellsSg_get l k n (by simpa using h)
    refine ⟨?_, ?_, ?_⟩
    · rw [show (k + 1) * 3 = 3 + k * 3 by omega, e]; exact h1
    · rw [show (k + 1) * 3 + 1 = 3 + (k * 3 + 1) by omega, e]; exact h2
    · rw [show (k + 1) * 3 + 2 = 3 + (k * 3 + 2) by omega, e]; exact h3
theorem addSg_off (g k : Nat) : ((⟨g, 0, none⟩ : Addr).add k) = ⟨g, k, none⟩ := by unfold Addr.add; split <;> simp_all
theorem RdSg.own {w : World} {B n c : Nat} {e : TypeId} {A : Option Addr} {l : List Sg} (h : w.ownsRow B e 3 (.slice A n c) n (cellsSg l)) : RdSg w w.heap.size A l := by
  intro k r hk
  obtain ⟨q1, q2, q3⟩ := cellsSg_get l k r hk
  rcases h.2 with ⟨hv, h0⟩ | ⟨g, cap, cur, hv, _, hg, _⟩
  · have h1 := h.1
    rw [h0] at h1
    have : cellsSg l = [] := List.length_eq_zero_iff.1 (by omega)
    rw [this] at q1; simp at q1
  · injection hv with hA
    subst hA
    have hc := fun j u hj => h.cells (g := g) rfl j u hj
    refine ⟨_, rfl, (Array.getElem?_eq_some_iff.1 hg).1, ?_⟩
    have h1 := hc _ _ q1
    have h2 := hc _ _ q2
    have h3 := hc _ _ q3
    rw [addSg_off] at h1 h2 h3 ⊢
    exact ⟨h1, h2, h3⟩
theorem RdSg.spot {w : World} {B : Nat} {ad : Addr} {n : Sg} {l : List Sg} (h : RdSg w B (some ad) l) (h0 : l[0]? = some n) : ad.spot = none := by
  obtain ⟨ad', e, _, hn⟩ := h 0 n h0
  cases e
  have hp := hn.weak
  rw [show ad.add (0 * 3) = ad from rfl] at hp
  unfold World.cell? at hp
  split at hp
  · split at hp
    · cases hp
    · rename_i h; simpa using h
  · cases hp
/-- Each cell of tigns that lie at an address. -/
theorem RdSg.cell {w : World} {B : Nat} {ad : Addr} {l : List Sg} (h : RdSg w B (some ad) l) : ∀ j u, (cellsSg l)[j]? = some u → w.cell? (ad.add j) = some u := by
  intro j u hu
  have hj := (List.getElem?_eq_some_iff.1 hu).1
  rw [cellsSg_len] at hj
  obtain ⟨k, r, hr, rfl⟩ : ∃ k r, r < 3 ∧ j = k * 3 + r := ⟨j / 3, j % 3, by omega, by omega⟩
  have hk : k < l.length := by omega
  have hs := h.spot (List.getElem?_eq_getElem (show 0 < l.length by omega))
  obtain ⟨q1, q2, q3⟩ := cellsSg_get l k l[k] (List.getElem?_eq_getElem hk)
  obtain ⟨ad', e', _, hn⟩ := h k l[k] (List.getElem?_eq_getElem hk)
  cases e'
  have hb : ∀ i, ad.add i = ⟨ad.block, ad.off + i, none⟩ := fun i => by
    obtain ⟨b, o, s⟩ := ad
    simp only at hs
    subst hs
    unfold Addr.add; split <;> simp_all
  rw [hb] at hn ⊢
  obtain ⟨h1, h2, h3⟩ := hn
  simp only at h1 h2 h3
  rw [← Nat.add_assoc]
  rcases r with _ | _ | _ | r
  · rw [Nat.add_zero] at hu ⊢; rw [q1] at hu; rw [← hu]; exact h1
  · rw [q2] at hu; rw [← hu]; exact h2
  · rw [q3] at hu; rw [← hu]; exact h3
  · omega
theorem cellsSg_one (l : List Sg) : ∀ u ∈ cellsSg l, u.oneCell' = true := by
  intro u hu
  obtain ⟨n, _, hn⟩ := List.mem_flatMap.1 hu
  simp [Sg.cells] at hn
  rcases hn with rfl | rfl | rfl <;> rfl
theorem info_sg : (Try.prog.info? 30).map (fun i => (i.zero, i.size, i.bytes)) = some (some (.agg #[.int .u32 0, .int .u64 0, .int .u64 0]), 3, 24) := by kernel_rfl
theorem info_rsg : (Try.prog.info? 37).map (fun i => (i.zero, i.size, i.bytes)) = some (some (.agg #[.int .u32 0, .int .u64 0, .int .u64 0]), 3, 24) := by kernel_rfl
theorem RdSg.drew {w : World} {A : Option Addr} {l : List Sg} (h : RdSg w w.heap.size A l) : RdSg w.drew w.drew.heap.size A l := h.step (Below.refl _ w).drew
theorem RdSg.take {w : World} {B : Nat} {A : Option Addr} {l : List Sg} (h : RdSg w B A l) (k : Nat) : RdSg w B A (l.take k) := fun j x hx => by
  rw [List.getElem?_take] at hx
  split at hx
  · exact h j x hx
  · cases hx
/-- What is left of tigns behind the first k. -/
theorem RdSg.drop {w : World} {B c k : Nat} {A : Option Addr} {l : List Sg} (h : RdSg w B A l) (hc : l.length ≤ c) : RdSg w B (if c = k then A else A.map (·.add (k * 3))) (l.drop k) := fun j x hx => by
  rw [List.getElem?_drop] at hx
  have hlt := (List.getElem?_eq_some_iff.1 hx).1
  obtain ⟨ad, rfl, hb, hn⟩ := h (k + j) x hx
  rw [if_neg (by omega)]
  refine ⟨ad.add (k * 3), rfl, by rw [add_block]; exact hb, ?_⟩
  have e : (ad.add (k * 3)).add (j * 3) = ad.add ((k + j) * 3) := by
    rw [Nat.add_mul]
    generalize k * 3 = a
    generalize j * 3 = b
    unfold Addr.add
    by_cases hi : a = 0 <;> by_cases hj : b = 0 <;> simp [hi, hj, Nat.add_assoc]
  rw [e]; exact hn
/-- A tign that has just been laid. -/
theorem RdSg.one (W : World) (n : Sg) (t : TypeId) : RdSg (W.alloc (.cells n.cells t)) (W.alloc (.cells n.cells t)).heap.size (some ⟨W.heap.size, 0, none⟩) [n] := fun k x hx => by
  rcases k with _ | k
  · simp at hx
    subst hx
    have hrow := World.alloc_heap_new W (Obj.cells n.cells t)
    refine ⟨_, rfl, by simp, ?_⟩
    rw [addSg_off]
    exact ⟨cell_of_row _ _ _ _ _ _ hrow, cell_of_row _ _ _ _ _ _ hrow, cell_of_row _ _ _ _ _ _ hrow⟩
  · simp at hx
theorem ownsRow_lowerSg {w : World} {base base' n size : Nat} {e : TypeId} {v : Value} {xs : List Value} (h : w.ownsRow base e size v n xs) (hb : base' ≤ base) : w.ownsRow base' e size v n xs :=
  ⟨h.1, h.2.imp id fun ⟨g, cap, cur, h1, h2, h3⟩ => ⟨g, cap, cur, h1, Nat.le_trans hb h2, h3⟩⟩
/-- append onto a row of the call's own of a slice that reads as tigns, nil or not. -/
theorem wpList_append_signs {P : Program} {w : World} {ops : Array Oper} {rest : List Oper} {o : Oper} {a : Act} {Q : Exit → Act → World → Prop} (hgd : o.guard = none) (s x : Operand) (t : TypeId)
    (ho : o.op = .call { callee := .builtin .append, args := #[s, x], argTypes := #[t, t] })
    (base : Nat) (e : TypeId) (i : TypeInfo) (ht : P.underlying t = some (.slice e)) (hi : P.info? e = some i) (hz : i.zero = some (.agg #[.int .u32 0, .int .u64 0, .int .u64 0])) (hsize : i.size = 3) (hby : i.bytes = 24)
    (v : Value) (n : Nat) (xs : List Value) (hs : a.eval s = v) (hown : w.ownsRow base e 3 v n xs)
    (A : Option Addr) (m c B : Nat) (cs : List Sg) (hx : a.eval x = .slice A m c) (hm : m = cs.length) (hr : RdSg w B A cs)
    (h63 : n + m ≤ maxLen) (hbytes : (n + m) * 24 ≤ 140737488355328) (hbase : base ≤ w.heap.size)
    (h : ∀ v' w', w'.ownsRow base e 3 v' (n + m) (xs ++ cellsSg cs) → w.grownBy w' v.ownBlock → wpList P ops Q rest (a.put o.dst v') w') : wpList P ops Q (o :: rest) a w := by
  rcases A with _ | ad
  · have h0 : cs = [] := hr.of_none
    subst h0
    obtain rfl : m = 0 := hm
    refine wpList_plain hgd fun K hK => ?_
    have hrun := run_append_nil (P := P) (w := w) base t o.type e i 3 ht hi v n xs hown c
    unfold Oper.wp
    simp [execOp, ho, resolve, invoke, builtin, hs, hx, hrun, Result.andThen]
    exact hK _ _ (h v w (by simpa [cellsSg] using hown) (World.grownBy.refl w _))
  · exact wpList_append_own w hgd s x t ho base e i _ 3 24 ht hi hz hsize hby rfl (by decide) v n xs hs hown ad m c (cellsSg cs) hx (by rw [cellsSg_len, hm]) hr.cell (cellsSg_one cs) h63 hbytes hbase (fun v' w' h1 h2 _ => h v' w' h1 h2)
/-- A call's answer: a slice of these tigns, in a row of the call's own. -/
structure SI (w0 : World) (e : TypeId) (v : Value) (l : List Sg) (w' : World) : Prop where
  below : Below w0.heap.size w0 w'
  own : w'.ownsRow w0.heap.size e 3 v l.length (cellsSg l)
theorem SI.step {w w1 w2 : World} {e : TypeId} {v : Value} {l : List Sg} (h : SI w e v l w1) (hb : Below w1.heap.size w1 w2) : SI w e v l w2 :=
  ⟨h.below.trans (hb.mono h.below.size), own_below h.own hb⟩
end Go.Proofs.Ytobgbheodlpclaa
