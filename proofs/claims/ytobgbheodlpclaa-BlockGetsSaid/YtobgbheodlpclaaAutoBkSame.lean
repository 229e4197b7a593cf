/-
  Texts that belong together: BkRow, BkSame.
-/
import Derived.Test.YtobgbheodlpclaaAutoBkSign
import Derived.Laws.AppendOwnNone
import Derived.Deep.LoopGhost
import Derived.Deep.DeepCutAuto
import Derived.Deep.QuietTactic
/-
  Signs that lie at an address, one behind the other; rows of signs of the call's own.
-/
namespace Go.Proofs.Ytobgbheodlpclaa
open Go.RowKit
set_option maxRecDepth 100000

/-- A tign's three cells, at an address. -/
structure SgAt (w : World) (ad : Addr) (n : Sg) : Prop where
  weak : w.cell? ad = some (.int .u32 (n.weak : Nat))
  hi : w.cell? ⟨ad.block, ad.off + 1, none⟩ = some (.int .u64 (n.hi : Nat))
  lo : w.cell? ⟨ad.block, ad.off + 2, none⟩ = some (.int .u64 (n.lo : Nat))
theorem SgAt.below {w w' : World} {B : Nat} {ad : Addr} {n : Sg} (h : SgAt w ad n) (hb : Below B w w') (hB : ad.block < B) : SgAt w' ad n :=
  ⟨(hb.cell hB).trans h.weak, (hb.cell (p := ⟨ad.block, _, none⟩) hB).trans h.hi, (hb.cell (p := ⟨ad.block, _, none⟩) hB).trans h.lo⟩
/-- Tigns that lie at an address, one behind the other, below block B. -/
def RdSg (w : World) (B : Nat) (A : Option Addr) (l : List Sg) : Prop :=
  ∀ k n, l[k]? = some n → ∃ ad : Addr, A = some ad ∧ ad.block < B ∧ SgAt w (ad.add (k * 3)) n
theorem RdSg.below {w w' : World} {B B' : Nat} {A : Option Addr} {l : List Sg} (h : RdSg w B A l) (hb : Below B' w w') (hB : B ≤ B') : RdSg w' B A l := fun k x hx => by
  obtain ⟨ad, e, hlt, h0⟩ := h k x hx
  exact ⟨ad, e, hlt, h0.below hb (by rw [add_block]; omega)⟩
theorem RdSg.mono {w : World} {B B' : Nat} {A : Option Addr} {l : List Sg} (h : RdSg w B A l) (hB : B ≤ B') : RdSg w B' A l := fun k x hx => by
  obtain ⟨ad, e, hlt, hc⟩ := h k x hx
  exact ⟨ad, e, by omega, hc⟩
theorem RdSg.step {w w' : World} {A : Option Addr} {l : List Sg} (h : RdSg w w.heap.size A l) (hb : Below w.heap.size w w') : RdSg w' w'.heap.size A l := (h.below hb (Nat.le_refl _)).mono hb.size
theorem RdSg.nil (w : World) (B : Nat) (A : Option Addr) : RdSg w B A [] := fun k x hx => by simp at hx
theorem RdSg.of_none {w : World} {B : Nat} {l : List Sg} (h : RdSg w B none l) : l = [] := by
  cases l with
  | nil => rfl
  | cons y r => obtain ⟨ad, e', _⟩ := h 0 y rfl; cases e'

/-- Tigns' cells. -/
def cellsSg (l : List Sg) : List Value := l.flatMap fun n => n.cells.toList
theorem cellsSg_app (l m : List Sg) : cellsSg (l ++ m) = cellsSg l ++ cellsSg m := by simp [cellsSg]
theorem cellsSg_snoc (l : List Sg) (n : Sg) : cellsSg (l ++ [n]) = cellsSg l ++ [.int .u32 (n.weak : Nat), .int .u64 (n.hi : Nat), .int .u64 (n.lo : Nat)] := by simp [cellsSg, Sg.cells]
theorem cellsSg_len : ∀ l : List Sg, (cellsSg l).length = l.length * 3
  | [] => rfl
  | n :: l => by
    show (n.cells.toList ++ cellsSg l).length = _
    rw [List.length_append, cellsSg_len l, List.length_cons]
    show 3 + _ = _
    omega
theorem cellsSg_get : ∀ (l : List Sg) (k : Nat) (n : Sg), l[k]? = some n → (cellsSg l)[k * 3]? = some (.int .u32 (n.weak : Nat)) ∧ (cellsSg l)[k * 3 + 1]? = some (.int .u64 (n.hi : Nat)) ∧ (cellsSg l)[k * 3 + 2]? = some (.int .u64 (n.lo : Nat))
  | [], k, n, h => by simp at h
  | u :: l, 0, n, h => by
    simp at h
    subst h
    exact ⟨rfl, rfl, rfl⟩
  | u :: l, k + 1, n, h => by
    have e : ∀ j, (cellsSg (u :: l))[3 + j]? = (cellsSg l)[j]? := fun j => by
      show (u.cells.toList ++ cellsSg l)[3 + j]? = _
      rw [List.getElem?_append_right (by show 3 ≤ _; omega)]
      congr 1
      show 3 + j - 3 = j
      omega
    obtain ⟨h1, h2, h3⟩ := cellsSg_get l k n (by simpa using h)
    refine ⟨?_, ?_, ?_⟩
    · rw [show (k + 1) * 3 = 3 + k * 3 by omega, e]; exact h1
    · rw [show (k + 1) * 3 + 1 = 3 + (k * 3 + 1) by omega, e]; exact h2
    · rw [show (k + 1) * 3 + 2 = 3 + (k * 3 + 2) by omega, e]; exact h3
theorem addSg_off (g k : Nat) : ((⟨g, 0, none⟩ : Addr).add k) = ⟨g, k, none⟩ := by unfold Addr.add; split <;> simp_all
theorem RdSg.own {w : World} {B n c : Nat} {e : TypeId} {A : Option Addr} {l : List Sg} (h : w.ownsRow B e 3 (.slice A n c) n (cellsSg l)) : RdSg w w.heap.size A l := by
  intro k r hk
  obtain ⟨q1, q2, q3⟩ := cellsSg_get l k r hk
  rcases h.2 with ⟨hv, h0⟩ | ⟨g, cap, cur, hv, _, hg, _⟩
  · have h1 := h.1
    rw [h0] at h1
    have : cellsSg l = [] := List.length_eq_zero_iff.1 (by omega)
    rw [this] at q1; simp at q1
  · injection hv with hA
    subst hA
    have hc := fun j u hj => h.cells (g := g) rfl j u hj
    refine ⟨_, rfl, (Array.getElem?_eq_some_iff.1 hg).1, ?_⟩
    have h1 := hc _ _ q1
    have h2 := hc _ _ q2
    have h3 := hc _ _ q3
    rw [addSg_off] at h1 h2 h3 ⊢
    exact ⟨h1, h2, h3⟩
theorem RdSg.spot {w : World} {B : Nat} {ad : Addr} {n : Sg} {l : List Sg} (h : RdSg w B (some ad) l) (h0 : l[0]? = some n) : ad.spot = none := by
  obtain ⟨ad', e, _, hn⟩ := h 0 n h0
  cases e
  have hp := hn.weak
  rw [show ad.add (0 * 3) = ad from rfl] at hp
  unfold World.cell? at hp
  split at hp
  · split at hp
    · cases hp
    · rename_i h; simpa using h
  · cases hp
/-- Each cell of tigns that lie at an address. -/
theorem RdSg.cell {w : World} {B : Nat} {ad : Addr} {l : List Sg} (h : RdSg w B (some ad) l) : ∀ j u, (cellsSg l)[j]? = some u → w.cell? (ad.add j) = some u := by
  intro j u hu
  have hj := (List.getElem?_eq_some_iff.1 hu).1
  rw [cellsSg_len] at hj
  obtain ⟨k, r, hr, rfl⟩ : ∃ k r, r < 3 ∧ j = k * 3 + r := ⟨j / 3, j % 3, by omega, by omega⟩
  have hk : k < l.length := by omega
  have hs := h.spot (List.getElem?_eq_getElem (show 0 < l.length by omega))
  obtain ⟨q1, q2, q3⟩ := cellsSg_get l k l[k] (List.getElem?_eq_getElem hk)
  obtain ⟨ad', e', _, hn⟩ := h k l[k] (List.getElem?_eq_getElem hk)
  cases e'
  have hb : ∀ i, ad.add i = ⟨ad.block, ad.off + i, none⟩ := fun i => by
    obtain ⟨b, o, s⟩ := ad
    simp only at hs
    subst hs
    unfold Addr.add; split <;> simp_all
  rw [hb] at hn ⊢
  obtain ⟨h1, h2, h3⟩ := hn
  simp only at h1 h2 h3
  rw [← Nat.add_assoc]
  rcases r with _ | _ | _ | r
  · rw [Nat.add_zero] at hu ⊢; rw [q1] at hu; rw [← hu]; exact h1
  · rw [q2] at hu; rw [← hu]; exact h2
  · rw [q3] at hu; rw [← hu]; exact h3
  · omega
theorem cellsSg_one (l : List Sg) : ∀ u ∈ cellsSg l, u.oneCell' = true := by
  intro u hu
  obtain ⟨n, _, hn⟩ := List.mem_flatMap.1 hu
  simp [Sg.cells] at hn
  rcases hn with rfl | rfl | rfl <;> rfl
theorem info_sg : (Try.prog.info? 30).map (fun i => (i.zero, i.size, i.bytes)) = some (some (.agg #[.int .u32 0, .int .u64 0, .int .u64 0]), 3, 24) := by kernel_rfl
theorem info_rsg : (Try.prog.info? 37).map (fun i => (i.zero, i.size, i.bytes)) = some (some (.agg #[.int .u32 0, .int .u64 0, .int .u64 0]), 3, 24) := by kernel_rfl
theorem RdSg.drew {w : World} {A : Option Addr} {l : List Sg} (h : RdSg w w.heap.size A l) : RdSg w.drew w.drew.heap.size A l := h.step (Below.refl _ w).drew
theorem RdSg.take {w : World} {B : Nat} {A : Option Addr} {l : List Sg} (h : RdSg w B A l) (k : Nat) : RdSg w B A (l.take k) := fun j x hx => by
  rw [List.getElem?_take] at hx
  split at hx
  · exact h j x hx
  · cases hx
/-- What is left of tigns behind the first k. -/
theorem RdSg.drop {w : World} {B c k : Nat} {A : Option Addr} {l : List Sg} (h : RdSg w B A l) (hc : l.length ≤ c) : RdSg w B (if c = k then A else A.map (·.add (k * 3))) (l.drop k) := fun j x hx => by
  rw [List.getElem?_drop] at hx
  have hlt := (List.getElem?_eq_some_iff.1 hx).1
  obtain ⟨ad, rfl, hb, hn⟩ := h (k + j) x hx
  rw [if_neg (by omega)]
  refine ⟨ad.add (k * 3), rfl, by rw [add_block]; exact hb, ?_⟩
  have e : (ad.add (k * 3)).add (j * 3) = ad.add ((k + j) * 3) := by
    rw [Nat.add_mul]
    generalize k * 3 = a
    generalize j * 3 = b
    unfold Addr.add
    by_cases hi : a = 0 <;> by_cases hj : b = 0 <;> simp [hi, hj, Nat.add_assoc]
  rw [e]; exact hn
/-- A tign that has just been laid. -/
theorem RdSg.one (W : World) (n : Sg) (t : TypeId) : RdSg (W.alloc (.cells n.cells t)) (W.alloc (.cells n.cells t)).heap.size (some ⟨W.heap.size, 0, none⟩) [n] := fun k x hx => by
  rcases k with _ | k
  · simp at hx
    subst hx
    have hrow := World.alloc_heap_new W (Obj.cells n.cells t)
    refine ⟨_, rfl, by simp, ?_⟩
    rw [addSg_off]
    exact ⟨cell_of_row _ _ _ _ _ _ hrow, cell_of_row _ _ _ _ _ _ hrow, cell_of_row _ _ _ _ _ _ hrow⟩
  · simp at hx
theorem ownsRow_lowerSg {w : World} {base base' n size : Nat} {e : TypeId} {v : Value} {xs : List Value} (h : w.ownsRow base e size v n xs) (hb : base' ≤ base) : w.ownsRow base' e size v n xs :=
  ⟨h.1, h.2.imp id fun ⟨g, cap, cur, h1, h2, h3⟩ => ⟨g, cap, cur, h1, Nat.le_trans hb h2, h3⟩⟩
/-- append onto a row of the call's own of a slice that reads as tigns, nil or not. -/
theorem wpList_append_signs {P : Program} {w : World} {ops : Array Oper} {rest : List Oper} {o : Oper} {a : Act} {Q : Exit → Act → World → Prop} (hgd : o.guard = none) (s x : Operand) (t : TypeId)
    (ho : o.op = .call { callee := .builtin .append, args := #[s, x], argTypes := #[t, t] })
    (base : Nat) (e : TypeId) (i : TypeInfo) (ht : P.underlying t = some (.slice e)) (hi : P.info? e = some i) (hz : i.zero = some (.agg #[.int .u32 0, .int .u64 0, .int .u64 0])) (hsize : i.size = 3) (hby : i.bytes = 24)
    (v : Value) (n : Nat) (xs : List Value) (hs : a.eval s = v) (hown : w.ownsRow base e 3 v n xs)
    (A : Option Addr) (m c B : Nat) (cs : List Sg) (hx : a.eval x = .slice A m c) (hm : m = cs.length) (hr : RdSg w B A cs)
    (h63 : n + m ≤ maxLen) (hbytes : (n + m) * 24 ≤ 140737488355328) (hbase : base ≤ w.heap.size)
    (h : ∀ v' w', w'.ownsRow base e 3 v' (n + m) (xs ++ cellsSg cs) → w.grownBy w' v.ownBlock → wpList P ops Q rest (a.put o.dst v') w') : wpList P ops Q (o :: rest) a w := by
  rcases A with _ | ad
  · have h0 : cs = [] := hr.of_none
    subst h0
    obtain rfl : m = 0 := hm
    refine wpList_plain hgd fun K hK => ?_
    have hrun := run_append_nil (P := P) (w := w) base t o.type e i 3 ht hi v n xs hown c
    unfold Oper.wp
    simp [execOp, ho, resolve, invoke, builtin, hs, hx, hrun, Result.andThen]
    exact hK _ _ (h v w (by simpa [cellsSg] using hown) (World.grownBy.refl w _))
  · exact wpList_append_own w hgd s x t ho base e i _ 3 24 ht hi hz hsize hby rfl (by decide) v n xs hs hown ad m c (cellsSg cs) hx (by rw [cellsSg_len, hm]) hr.cell (cellsSg_one cs) h63 hbytes hbase (fun v' w' h1 h2 _ => h v' w' h1 h2)
/-- A call's answer: a slice of these tigns, in a row of the call's own. -/
structure SI (w0 : World) (e : TypeId) (v : Value) (l : List Sg) (w' : World) : Prop where
  below : Below w0.heap.size w0 w'
  own : w'.ownsRow w0.heap.size e 3 v l.length (cellsSg l)
theorem SI.step {w w1 w2 : World} {e : TypeId} {v : Value} {l : List Sg} (h : SI w e v l w1) (hb : Below w1.heap.size w1 w2) : SI w e v l w2 :=
  ⟨h.below.trans (hb.mono h.below.size), own_below h.own hb⟩
end Go.Proofs.Ytobgbheodlpclaa
/-
  Are signs the same: slices.Equal.
-/
namespace Go.Proofs.Ytobgbheodlpclaa
open Go.RowKit
set_option maxRecDepth 100000

/-- Are two signs the same? -/
def sgB (x y : Sg) : Bool := (((x.weak : Nat) : Int) == ((y.weak : Nat) : Int)) && ((((x.hi : Nat) : Int) == ((y.hi : Nat) : Int)) && (((x.lo : Nat) : Int) == ((y.lo : Nat) : Int)))
def sgsB : List Sg → List Sg → Bool
  | [], [] => true
  | x :: a, y :: b => sgB x y && sgsB a b
  | _, _ => false
theorem sgB_iff (x y : Sg) : sgB x y = true ↔ x = y := by
  obtain ⟨a, b, c⟩ := x
  obtain ⟨a', b', c'⟩ := y
  simp only [sgB, Bool.and_eq_true, beq_iff_eq, Sg.mk.injEq]
  omega
theorem sgsB_iff : ∀ a b : List Sg, sgsB a b = true ↔ a = b
  | [], [] => by simp [sgsB]
  | x :: a, [] => by simp [sgsB]
  | [], y :: b => by simp [sgsB]
  | x :: a, y :: b => by
    simp only [sgsB, Bool.and_eq_true, sgB_iff, sgsB_iff a b, List.cons.injEq]
theorem sgsB_refl (a : List Sg) : sgsB a a = true := (sgsB_iff a a).2 rfl
theorem sgsB_drop (a b : List Sg) (i : Nat) (x y : Sg) (hx : a[i]? = some x) (hy : b[i]? = some y) : sgsB (a.drop i) (b.drop i) = (sgB x y && sgsB (a.drop (i + 1)) (b.drop (i + 1))) := by
  obtain ⟨h1, e1⟩ := List.getElem?_eq_some_iff.1 hx
  obtain ⟨h2, e2⟩ := List.getElem?_eq_some_iff.1 hy
  rw [List.drop_eq_getElem_cons h1, List.drop_eq_getElem_cons h2, e1, e2]; rfl
theorem sgsB_len {a b : List Sg} (h : a.length ≠ b.length) : sgsB a b = false := by
  cases e : sgsB a b with
  | false => rfl
  | true => exact absurd (by rw [(sgsB_iff a b).1 e]) h
/-- Where two signs differ first. -/
theorem sgB_first {x y : Sg} (h : sgB x y = false) :
    (((x.weak : Nat) : Int) == ((y.weak : Nat) : Int)) = false ∨ ((((x.weak : Nat) : Int) == ((y.weak : Nat) : Int)) = true ∧ (((x.hi : Nat) : Int) == ((y.hi : Nat) : Int)) = false) ∨ ((((x.weak : Nat) : Int) == ((y.weak : Nat) : Int)) = true ∧ (((x.hi : Nat) : Int) == ((y.hi : Nat) : Int)) = true ∧ (((x.lo : Nat) : Int) == ((y.lo : Nat) : Int)) = false) := by
  unfold sgB at h
  cases h1 : (((x.weak : Nat) : Int) == ((y.weak : Nat) : Int)) <;> cases h2 : (((x.hi : Nat) : Int) == ((y.hi : Nat) : Int)) <;> cases h3 : (((x.lo : Nat) : Int) == ((y.lo : Nat) : Int)) <;> simp_all

set_option maxHeartbeats 16000000 in
theorem eqSigns_any (A D : Option Addr) (a b : List Sg) (c d : Nat) (w : World) (hA : RdSg w w.heap.size A a) (hD : RdSg w w.heap.size D b) (ha : (a.length : Int) ≤ 1000000) :
    Calls Try.prog 77 #[.slice A a.length c, .slice D b.length d] w fun e w' => e = .returned (.bool (sgsB a b)) ∧ Below w.heap.size w w' := by
  obtain ⟨V, hV⟩ : ∃ V, V = sgsB a b := ⟨_, rfl⟩
  rw [← hV]
  by_cases hl : a.length = b.length
  · have HV := hide (show sgsB (a.drop 0) (b.drop 0) = V by rw [hV]; rfl)
    have hle : (a.length : Int) = b.length := by omega
    have HAA := hide hA
    have HDD := hide hD
    clear hV hA hD
    go_enter Try.func77, Try.ntmps77
    go_wp2_with fail
    go_loopg [13] a.length (fun gk iv wr => ∃ i : Nat, iv = .int .i64 i ∧ i + gk = a.length ∧ Hid (sgsB (a.drop i) (b.drop i) = V) ∧ Hid (Below w.heap.size w wr))
    case atStart => exact ⟨0, rfl, by omega, HV, hide (Below.refl _ _)⟩
    case round =>
      obtain ⟨i, rfl, hig, HB, HW⟩ := hrel
      clear HV
      cases gk with
      | zero =>
        obtain rfl : i = a.length := by omega
        have HE := hide (show V = true by rw [← HB.out, List.drop_length, hl, List.drop_length]; rfl)
        clear HB
        go_wp2_with fail
        exact bodyPost_ret (results_tmp rfl _ _ _) rfl ⟨by rw [HE.out]; rfl, HW.out⟩
      | succ g0 =>
        have hii : (i : Int) < a.length := by omega
        have hib : (i : Int) < b.length := by omega
        have hi0 : (0 : Int) ≤ (i : Int) := by omega
        obtain ⟨x, hx⟩ : ∃ x, a[i]? = some x := ⟨_, List.getElem?_eq_getElem (by omega)⟩
        obtain ⟨y, hy⟩ : ∃ y, b[i]? = some y := ⟨_, List.getElem?_eq_getElem (by omega)⟩
        have hd := HB.out
        rw [sgsB_drop a b i x y hx hy] at hd
        obtain ⟨ad, rfl, hlt1, h1⟩ := (HAA.out.below HW.out (Nat.le_refl _)) i x hx
        obtain ⟨ae, rfl, hlt2, h2⟩ := (HDD.out.below HW.out (Nat.le_refl _)) i y hy
        have hiw : IntKind.i64.wrap ((i : Int) + 1) = ((i + 1 : Nat) : Int) := by rw [IntWalk.i64_in _ (by omega)]; rfl
        obtain ⟨c0, c1, c2⟩ := h1
        obtain ⟨e0, e1, e2⟩ := h2
        cases hq : sgB x y with
        | true =>
          rw [hq, Bool.true_and] at hd
          obtain rfl := (sgB_iff x y).1 hq
          have HD := hide hd
          clear hd HB hx hy hq hlt1 hlt2
          obtain ⟨wk, hi, lo⟩ := x
          simp only at c0 c1 c2 e0 e1 e2
          go_wp2_with fail
          go_quiet (fail)
          go_wp2_with fail
          rename_i nq
          have HW2 := hide (below_drewN HW.out nq)
          go_roundg g0
          case rel => exact ⟨i + 1, rfl, by omega, HD, HW2⟩
          case measure => omega
        | false =>
          rw [hq, Bool.false_and] at hd
          have HD := hide hd
          have hfirst := sgB_first hq
          clear hd HB hx hy hq hlt1 hlt2
          obtain ⟨wk, hi, lo⟩ := x
          obtain ⟨wk', hi', lo'⟩ := y
          simp only at c0 c1 c2 e0 e1 e2 hfirst
          rcases hfirst with g1 | ⟨g1, g2⟩ | ⟨g1, g2, g3⟩
          all_goals
            go_wp2_with fail
            go_quiet (fail)
            go_wp2_with fail
            rename_i nq
            exact bodyPost_ret (results_tmp rfl _ _ _) rfl ⟨by rw [← HD.out]; rfl, below_drewN HW.out nq⟩
  · have hle : ¬ (a.length : Int) = b.length := by omega
    have HE := hide (show V = false by rw [hV]; exact sgsB_len hl)
    clear hV
    go_enter Try.func77, Try.ntmps77
    go_wp2_with fail
    exact bodyPost_ret (results_tmp rfl _ _ _) rfl ⟨by rw [HE.out]; rfl, Below.refl _ _⟩
end Go.Proofs.Ytobgbheodlpclaa
