/-
  Texts that belong together: Toks, TkSame.
-/
import Derived.Test.YtobgbheodlpclaaAutoBytes
import Derived.Laws.AppendOwnNone
import Derived.Deep.LoopGhost
import Derived.Deep.DeepCutAuto
import Derived.Deep.QuietTactic
import Derived.Lib.Strings
/-
  Tokens that lie at an address, one behind the other; rows of tokens of the call's own.
-/
namespace Go.Proofs.Ytobgbheodlpclaa
open Go.RowKit
set_option maxRecDepth 100000

/-- A token. -/
structure Tk where
  from_ : Int
  many : Int
  data : ByteArray
/-- A token's cells. -/
def Tk.cells (n : Tk) : Array Value := #[.int .i64 n.from_, .int .i64 n.many, .string n.data]
/-- A token's three cells, at an address. -/
structure TkAt (w : World) (ad : Addr) (n : Tk) : Prop where
  from_ : w.cell? ad = some (.int .i64 n.from_)
  many : w.cell? ⟨ad.block, ad.off + 1, none⟩ = some (.int .i64 n.many)
  data : w.cell? ⟨ad.block, ad.off + 2, none⟩ = some (.string n.data)
theorem TkAt.below {w w' : World} {B : Nat} {ad : Addr} {n : Tk} (h : TkAt w ad n) (hb : Below B w w') (hB : ad.block < B) : TkAt w' ad n :=
  ⟨(hb.cell hB).trans h.from_, (hb.cell (p := ⟨ad.block, _, none⟩) hB).trans h.many, (hb.cell (p := ⟨ad.block, _, none⟩) hB).trans h.data⟩
/-- Tokens that lie at an address, one behind the other, below block B. -/
def RdT (w : World) (B : Nat) (A : Option Addr) (l : List Tk) : Prop :=
  ∀ k n, l[k]? = some n → ∃ ad : Addr, A = some ad ∧ ad.block < B ∧ TkAt w (ad.add (k * 3)) n
theorem RdT.below {w w' : World} {B B' : Nat} {A : Option Addr} {l : List Tk} (h : RdT w B A l) (hb : Below B' w w') (hB : B ≤ B') : RdT w' B A l := fun k x hx => by
  obtain ⟨ad, e, hlt, h0⟩ := h k x hx
  exact ⟨ad, e, hlt, h0.below hb (by rw [add_block]; omega)⟩
theorem RdT.mono {w : World} {B B' : Nat} {A : Option Addr} {l : List Tk} (h : RdT w B A l) (hB : B ≤ B') : RdT w B' A l := fun k x hx => by
  obtain ⟨ad, e, hlt, hc⟩ := h k x hx
  exact ⟨ad, e, by omega, hc⟩
theorem RdT.step {w w' : World} {A : Option Addr} {l : List Tk} (h : RdT w w.heap.size A l) (hb : Below w.heap.size w w') : RdT w' w'.heap.size A l := (h.below hb (Nat.le_refl _)).mono hb.size
theorem RdT.nil (w : World) (B : Nat) (A : Option Addr) : RdT w B A [] := fun k x hx => by simp at hx
theorem RdT.of_none {w : World} {B : Nat} {l : List Tk} (h : RdT w B none l) : l = [] := by
  cases l with
  | nil => rfl
  | cons y r => obtain ⟨ad, e', _⟩ := h 0 y rfl; cases e'

/-- Tokens' cells. -/
def cellsT (l : List Tk) : List Value := l.flatMap fun n => n.cells.toList
theorem cellsT_app (l m : List Tk) : cellsT (l ++ m) = cellsT l ++ cellsT m := by simp [cellsT]
theorem cellsT_snoc (l : List Tk) (n : Tk) : cellsT (l ++ [n]) = cellsT l ++ [.int .i64 n.from_, .int .i64 n.many, .string n.data] := by simp [cellsT, Tk.cells]
theorem cellsT_len : ∀ l : List Tk, (cellsT l).length = l.length * 3
  | [] => rfl
  | n :: l => by
    show (n.cells.toList ++ cellsT l).length = _
    rw [List.length_append, cellsT_len l, List.length_cons]
    show 3 + _ = _
    omega
theorem cellsT_get : ∀ (l : List Tk) (k : Nat) (n : Tk), l[k]? = some n → (cellsT l)[k * 3]? = some (.int .i64 n.from_) ∧ (cellsT l)[k * 3 + 1]? = some (.int .i64 n.many) ∧ (cellsT l)[k * 3 + 2]? = some (.string n.data)
  | [], k, n, h => by simp at h
  | u :: l, 0, n, h => by
    simp at h
    subst h
    exact ⟨rfl, rfl, rfl⟩
  | u :: l, k + 1, n, h => by
    have e : ∀ j, (cellsT (u :: l))[3 + j]? = (cellsT l)[j]? := fun j => by
      show (u.cells.toList ++ cellsT l)[3 + j]? = _
      rw [List.getElem?_append_right (by show 3 ≤ _; omega)]
      congr 1
      show 3 + j - 3 = j
      omega
    obtain ⟨h1, h2, h3⟩ := cellsT_get l k n (by simpa using h)
    refine ⟨?_, ?_, ?_⟩
    · rw [show (k + 1) * 3 = 3 + k * 3 by omega, e]; exact h1
    · rw [show (k + 1) * 3 + 1 = 3 + (k * 3 + 1) by omega, e]; exact h2
    · rw [show (k + 1) * 3 + 2 = 3 + (k * 3 + 2) by omega, e]; exact h3
theorem addT_off (g k : Nat) : ((⟨g, 0, none⟩ : Addr).add k) = ⟨g, k, none⟩ := by unfold Addr.add; split <;> simp_all
theorem RdT.own {w : World} {B n c : Nat} {e : TypeId} {A : Option Addr} {l : List Tk} (h : w.ownsRow B e 3 (.slice A n c) n (cellsT l)) : RdT w w.heap.size A l := by
  intro k r hk
  obtain ⟨q1, q2, q3⟩ := cellsT_get l k r hk
  rcases h.2 with ⟨hv, h0⟩ | ⟨g, cap, cur, hv, _, hg, _⟩
  · have h1 := h.1
    rw [h0] at h1
    have : cellsT l = [] := List.length_eq_zero_iff.1 (by omega)
    rw [this] at q1; simp at q1
  · injection hv with hA
    subst hA
    have hc := fun j u hj => h.cells (g := g) rfl j u hj
    refine ⟨_, rfl, (Array.getElem?_eq_some_iff.1 hg).1, ?_⟩
    have h1 := hc _ _ q1
    have h2 := hc _ _ q2
    have h3 := hc _ _ q3
    rw [addT_off] at h1 h2 h3 ⊢
    exact ⟨h1, h2, h3⟩
theorem RdT.spot {w : World} {B : Nat} {ad : Addr} {n : Tk} {l : List Tk} (h : RdT w B (some ad) l) (h0 : l[0]? = some n) : ad.spot = none := by
  obtain ⟨ad', e, _, hn⟩ := h 0 n h0
  cases e
  have hp := hn.from_
  rw [show ad.add (0 * 3) = ad from rfl] at hp
  unfold World.cell? at hp
  split at hp
  · split at hp
    · cases hp
    · rename_i h; simpa using h
  · cases hp
/-- Each cell of tokens that lie at an address. -/
theorem RdT.cell {w : World} {B : Nat} {ad : Addr} {l : List Tk} (h : RdT w B (some ad) l) : ∀ j u, (cellsT l)[j]? = some u → w.cell? (ad.add j) = some u := by
  intro j u hu
  have hj := (List.getElem?_eq_some_iff.1 hu).1
  rw [cellsT_len] at hj
  obtain ⟨k, r, hr, rfl⟩ : ∃ k r, r < 3 ∧ j = k * 3 + r := ⟨j / 3, j % 3, by omega, by omega⟩
  have hk : k < l.length := by omega
  have hs := h.spot (List.getElem?_eq_getElem (show 0 < l.length by omega))
  obtain ⟨q1, q2, q3⟩ := cellsT_get l k l[k] (List.getElem?_eq_getElem hk)
  obtain ⟨ad', e', _, hn⟩ := h k l[k] (List.getElem?_eq_getElem hk)
  cases e'
  have hb : ∀ i, ad.add i = ⟨ad.block, ad.off + i, none⟩ := fun i => by
    obtain ⟨b, o, s⟩ := ad
    simp only at hs
    subst hs
    unfold Addr.add; split <;> simp_all
  rw [hb] at hn ⊢
  obtain ⟨h1, h2, h3⟩ := hn
  simp only at h1 h2 h3
  rw [← Nat.add_assoc]
  rcases r with _ | _ | _ | r
  · rw [Nat.add_zero] at hu ⊢; rw [q1] at hu; rw [← hu]; exact h1
  · rw [q2] at hu; rw [← hu]; exact h2
  · rw [q3] at hu; rw [← hu]; exact h3
  · omega
theorem cellsT_one (l : List Tk) : ∀ u ∈ cellsT l, u.oneCell' = true := by
  intro u hu
  obtain ⟨n, _, hn⟩ := List.mem_flatMap.1 hu
  simp [Tk.cells] at hn
  rcases hn with rfl | rfl | rfl <;> rfl
theorem info_tk : (Try.prog.info? 71).map (fun i => (i.zero, i.size, i.bytes)) = some (some (.agg #[.int .i64 0, .int .i64 0, .string ⟨#[]⟩]), 3, 32) := by kernel_rfl
theorem info_rtk : (Try.prog.info? 69).map (fun i => (i.zero, i.size, i.bytes)) = some (some (.agg #[.int .i64 0, .int .i64 0, .string ⟨#[]⟩]), 3, 32) := by kernel_rfl
theorem RdT.drew {w : World} {A : Option Addr} {l : List Tk} (h : RdT w w.heap.size A l) : RdT w.drew w.drew.heap.size A l := h.step (Below.refl _ w).drew
theorem RdT.take {w : World} {B : Nat} {A : Option Addr} {l : List Tk} (h : RdT w B A l) (k : Nat) : RdT w B A (l.take k) := fun j x hx => by
  rw [List.getElem?_take] at hx
  split at hx
  · exact h j x hx
  · cases hx
/-- What is left of tokens behind the first k. -/
theorem RdT.drop {w : World} {B c k : Nat} {A : Option Addr} {l : List Tk} (h : RdT w B A l) (hc : l.length ≤ c) : RdT w B (if c = k then A else A.map (·.add (k * 3))) (l.drop k) := fun j x hx => by
  rw [List.getElem?_drop] at hx
  have hlt := (List.getElem?_eq_some_iff.1 hx).1
  obtain ⟨ad, rfl, hb, hn⟩ := h (k + j) x hx
  rw [if_neg (by omega)]
  refine ⟨ad.add (k * 3), rfl, by rw [add_block]; exact hb, ?_⟩
  have e : (ad.add (k * 3)).add (j * 3) = ad.add ((k + j) * 3) := by
    rw [Nat.add_mul]
    generalize k * 3 = a
    generalize j * 3 = b
    unfold Addr.add
    by_cases hi : a = 0 <;> by_cases hj : b = 0 <;> simp [hi, hj, Nat.add_assoc]
  rw [e]; exact hn
/-- A token that has just been laid. -/
theorem RdT.one (W : World) (n : Tk) (t : TypeId) : RdT (W.alloc (.cells n.cells t)) (W.alloc (.cells n.cells t)).heap.size (some ⟨W.heap.size, 0, none⟩) [n] := fun k x hx => by
  rcases k with _ | k
  · simp at hx
    subst hx
    have hrow := World.alloc_heap_new W (Obj.cells n.cells t)
    refine ⟨_, rfl, by simp, ?_⟩
    rw [addT_off]
    exact ⟨cell_of_row _ _ _ _ _ _ hrow, cell_of_row _ _ _ _ _ _ hrow, cell_of_row _ _ _ _ _ _ hrow⟩
  · simp at hx
theorem ownsRow_lowerT {w : World} {base base' n size : Nat} {e : TypeId} {v : Value} {xs : List Value} (h : w.ownsRow base e size v n xs) (hb : base' ≤ base) : w.ownsRow base' e size v n xs :=
  ⟨h.1, h.2.imp id fun ⟨g, cap, cur, h1, h2, h3⟩ => ⟨g, cap, cur, h1, Nat.le_trans hb h2, h3⟩⟩
/-- append onto a row of the call's own of a slice that reads as tokens, nil or not. -/
theorem wpList_append_toks {P : Program} {w : World} {ops : Array Oper} {rest : List Oper} {o : Oper} {a : Act} {Q : Exit → Act → World → Prop} (hgd : o.guard = none) (s x : Operand) (t : TypeId)
    (ho : o.op = .call { callee := .builtin .append, args := #[s, x], argTypes := #[t, t] })
    (base : Nat) (e : TypeId) (i : TypeInfo) (ht : P.underlying t = some (.slice e)) (hi : P.info? e = some i) (hz : i.zero = some (.agg #[.int .i64 0, .int .i64 0, .string ⟨#[]⟩])) (hsize : i.size = 3) (hby : i.bytes = 32)
    (v : Value) (n : Nat) (xs : List Value) (hs : a.eval s = v) (hown : w.ownsRow base e 3 v n xs)
    (A : Option Addr) (m c B : Nat) (cs : List Tk) (hx : a.eval x = .slice A m c) (hm : m = cs.length) (hr : RdT w B A cs)
    (h63 : n + m ≤ maxLen) (hbytes : (n + m) * 32 ≤ 140737488355328) (hbase : base ≤ w.heap.size)
    (h : ∀ v' w', w'.ownsRow base e 3 v' (n + m) (xs ++ cellsT cs) → w.grownBy w' v.ownBlock → wpList P ops Q rest (a.put o.dst v') w') : wpList P ops Q (o :: rest) a w := by
  rcases A with _ | ad
  · have h0 : cs = [] := hr.of_none
    subst h0
    obtain rfl : m = 0 := hm
    refine wpList_plain hgd fun K hK => ?_
    have hrun := run_append_nil (P := P) (w := w) base t o.type e i 3 ht hi v n xs hown c
    unfold Oper.wp
    simp [execOp, ho, resolve, invoke, builtin, hs, hx, hrun, Result.andThen]
    exact hK _ _ (h v w (by simpa [cellsT] using hown) (World.grownBy.refl w _))
  · exact wpList_append_own w hgd s x t ho base e i _ 3 32 ht hi hz hsize hby rfl (by decide) v n xs hs hown ad m c (cellsT cs) hx (by rw [cellsT_len, hm]) hr.cell (cellsT_one cs) h63 hbytes hbase (fun v' w' h1 h2 _ => h v' w' h1 h2)
/-- A call's answer: a slice of these tokens, in a row of the call's own. -/
structure TI (w0 : World) (e : TypeId) (v : Value) (l : List Tk) (w' : World) : Prop where
  below : Below w0.heap.size w0 w'
  own : w'.ownsRow w0.heap.size e 3 v l.length (cellsT l)
theorem TI.step {w w1 w2 : World} {e : TypeId} {v : Value} {l : List Tk} (h : TI w e v l w1) (hb : Below w1.heap.size w1 w2) : TI w e v l w2 :=
  ⟨h.below.trans (hb.mono h.below.size), own_below h.own hb⟩
end Go.Proofs.Ytobgbheodlpclaa
/-
  Are tokens the same: the program's and the reference's answer.
-/
namespace Go.Proofs.Ytobgbheodlpclaa
open Go.RowKit
set_option maxRecDepth 100000

theorem toListT (s : ByteArray) : s.toList = toL s := Lib.toList_data s
/-- Are two tokens the same? -/
def tkB (x y : Tk) : Bool := (x.from_ == y.from_) && ((x.many == y.many) && (x.data.toList == y.data.toList))
def sameB : List Tk → List Tk → Bool
  | [], [] => true
  | x :: a, y :: b => tkB x y && sameB a b
  | _, _ => false
theorem tkB_iff (x y : Tk) : tkB x y = true ↔ x = y := by
  obtain ⟨a, b, c⟩ := x
  obtain ⟨a', b', c'⟩ := y
  simp only [tkB, Bool.and_eq_true, beq_iff_eq, Tk.mk.injEq]
  have h : ∀ p q : ByteArray, p.toList = q.toList ↔ p = q := fun p q => ⟨fun h => toL_inj (by rw [← toListT, ← toListT, h]), fun h => by rw [h]⟩
  rw [h]
theorem sameB_iff : ∀ a b : List Tk, sameB a b = true ↔ a = b
  | [], [] => by simp [sameB]
  | x :: a, [] => by simp [sameB]
  | [], y :: b => by simp [sameB]
  | x :: a, y :: b => by
    simp only [sameB, Bool.and_eq_true, tkB_iff, sameB_iff a b, List.cons.injEq]
theorem sameB_refl (a : List Tk) : sameB a a = true := (sameB_iff a a).2 rfl
theorem sameB_drop (a b : List Tk) (i : Nat) (x y : Tk) (hx : a[i]? = some x) (hy : b[i]? = some y) : sameB (a.drop i) (b.drop i) = (tkB x y && sameB (a.drop (i + 1)) (b.drop (i + 1))) := by
  obtain ⟨h1, e1⟩ := List.getElem?_eq_some_iff.1 hx
  obtain ⟨h2, e2⟩ := List.getElem?_eq_some_iff.1 hy
  rw [List.drop_eq_getElem_cons h1, List.drop_eq_getElem_cons h2, e1, e2]; rfl
theorem sameB_len {a b : List Tk} (h : a.length ≠ b.length) : sameB a b = false := by
  cases e : sameB a b with
  | false => rfl
  | true => exact absurd (by rw [(sameB_iff a b).1 e]) h
/-- Where two tokens differ first. -/
theorem tkB_first {x y : Tk} (h : tkB x y = false) :
    (x.from_ == y.from_) = false ∨ ((x.from_ == y.from_) = true ∧ (x.many == y.many) = false) ∨ ((x.from_ == y.from_) = true ∧ (x.many == y.many) = true ∧ (x.data.toList == y.data.toList) = false) := by
  unfold tkB at h
  cases h1 : (x.from_ == y.from_) <;> cases h2 : (x.many == y.many) <;> cases h3 : (x.data.toList == y.data.toList) <;> simp_all

set_option maxHeartbeats 16000000 in
theorem same_any (A D : Option Addr) (a b : List Tk) (c d : Nat) (w : World) (hA : RdT w w.heap.size A a) (hD : RdT w w.heap.size D b) (ha : (a.length : Int) ≤ 1000000) :
    Calls Try.prog 43 #[.slice A a.length c, .slice D b.length d] w fun e w' => e = .returned (.bool (sameB a b)) ∧ Below w.heap.size w w' := by
  obtain ⟨V, hV⟩ : ∃ V, V = sameB a b := ⟨_, rfl⟩
  rw [← hV]
  by_cases hl : a.length = b.length
  · have HV := hide (show sameB (a.drop 0) (b.drop 0) = V by rw [hV]; rfl)
    have hle : (a.length : Int) = b.length := by omega
    have HAA := hide hA
    have HDD := hide hD
    clear hV hA hD
    go_enter Try.func43, Try.ntmps43
    go_wp2_with fail
    go_loopg [13] a.length (fun gk iv wr => ∃ i : Nat, iv = .int .i64 i ∧ i + gk = a.length ∧ Hid (sameB (a.drop i) (b.drop i) = V) ∧ Hid (Below w.heap.size w wr))
    case atStart => exact ⟨0, rfl, by omega, HV, hide (Below.refl _ _)⟩
    case round =>
      obtain ⟨i, rfl, hig, HB, HW⟩ := hrel
      clear HV
      cases gk with
      | zero =>
        obtain rfl : i = a.length := by omega
        have HE := hide (show V = true by rw [← HB.out, List.drop_length, hl, List.drop_length]; rfl)
        clear HB
        go_wp2_with fail
        exact bodyPost_ret (results_tmp rfl _ _ _) rfl ⟨by rw [HE.out]; rfl, HW.out⟩
      | succ g0 =>
        have hii : (i : Int) < a.length := by omega
        have hib : (i : Int) < b.length := by omega
        have hi0 : (0 : Int) ≤ (i : Int) := by omega
        obtain ⟨x, hx⟩ : ∃ x, a[i]? = some x := ⟨_, List.getElem?_eq_getElem (by omega)⟩
        obtain ⟨y, hy⟩ : ∃ y, b[i]? = some y := ⟨_, List.getElem?_eq_getElem (by omega)⟩
        have hd := HB.out
        rw [sameB_drop a b i x y hx hy] at hd
        obtain ⟨ad, rfl, hlt1, h1⟩ := (HAA.out.below HW.out (Nat.le_refl _)) i x hx
        obtain ⟨ae, rfl, hlt2, h2⟩ := (HDD.out.below HW.out (Nat.le_refl _)) i y hy
        have hiw : IntKind.i64.wrap ((i : Int) + 1) = ((i + 1 : Nat) : Int) := by rw [IntWalk.i64_in _ (by omega)]; rfl
        obtain ⟨c0, c1, c2⟩ := h1
        obtain ⟨e0, e1, e2⟩ := h2
        cases hq : tkB x y with
        | true =>
          rw [hq, Bool.true_and] at hd
          obtain rfl := (tkB_iff x y).1 hq
          have HD := hide hd
          clear hd HB hx hy hq hlt1 hlt2
          obtain ⟨fr, many, data⟩ := x
          simp only at c0 c1 c2 e0 e1 e2
          go_wp2_with fail
          go_quiet (fail)
          go_wp2_with fail
          rename_i nq
          have HW2 := hide (below_drewN HW.out nq)
          go_roundg g0
          case rel => exact ⟨i + 1, rfl, by omega, HD, HW2⟩
          case measure => omega
        | false =>
          rw [hq, Bool.false_and] at hd
          have HD := hide hd
          have hfirst := tkB_first hq
          clear hd HB hx hy hq hlt1 hlt2
          obtain ⟨fr, many, data⟩ := x
          obtain ⟨fr', many', data'⟩ := y
          simp only at c0 c1 c2 e0 e1 e2 hfirst
          rcases hfirst with g1 | ⟨g1, g2⟩ | ⟨g1, g2, g3⟩
          all_goals
            go_wp2_with fail
            go_quiet (fail)
            go_wp2_with fail
            rename_i nq
            exact bodyPost_ret (results_tmp rfl _ _ _) rfl ⟨by rw [← HD.out]; rfl, below_drewN HW.out nq⟩
  · have hle : ¬ (a.length : Int) = b.length := by omega
    have HE := hide (show V = false by rw [hV]; exact sameB_len hl)
    clear hV
    go_enter Try.func43, Try.ntmps43
    go_wp2_with fail
    exact bodyPost_ret (results_tmp rfl _ _ _) rfl ⟨by rw [HE.out]; rfl, Below.refl _ _⟩

set_option maxHeartbeats 16000000 in
theorem refTSame_any (A D : Option Addr) (a b : List Tk) (c d : Nat) (w : World) (hA : RdT w w.heap.size A a) (hD : RdT w w.heap.size D b) (ha : (a.length : Int) ≤ 1000000) :
    Calls Try.prog 44 #[.slice A a.length c, .slice D b.length d] w fun e w' => e = .returned (.bool (sameB a b)) ∧ Below w.heap.size w w' := by
  obtain ⟨V, hV⟩ : ∃ V, V = sameB a b := ⟨_, rfl⟩
  rw [← hV]
  by_cases hl : a.length = b.length
  · have HV := hide (show sameB (a.drop 0) (b.drop 0) = V by rw [hV]; rfl)
    have hle : (a.length : Int) = b.length := by omega
    have HAA := hide hA
    have HDD := hide hD
    clear hV hA hD
    go_enter Try.func44, Try.ntmps44
    go_wp2_with fail
    go_loopg [5] a.length (fun gk iv wr => ∃ i : Nat, iv = .int .i64 i ∧ i + gk = a.length ∧ Hid (sameB (a.drop i) (b.drop i) = V) ∧ Hid (Below w.heap.size w wr))
    case atStart => exact ⟨0, rfl, by omega, HV, hide (Below.refl _ _)⟩
    case round =>
      obtain ⟨i, rfl, hig, HB, HW⟩ := hrel
      clear HV
      cases gk with
      | zero =>
        obtain rfl : i = a.length := by omega
        have HE := hide (show V = true by rw [← HB.out, List.drop_length, hl, List.drop_length]; rfl)
        clear HB
        go_wp2_with fail
        exact bodyPost_ret (results_tmp rfl _ _ _) rfl ⟨by rw [HE.out]; rfl, HW.out⟩
      | succ g0 =>
        have hii : (i : Int) < a.length := by omega
        have hib : (i : Int) < b.length := by omega
        have hi0 : (0 : Int) ≤ (i : Int) := by omega
        obtain ⟨x, hx⟩ : ∃ x, a[i]? = some x := ⟨_, List.getElem?_eq_getElem (by omega)⟩
        obtain ⟨y, hy⟩ : ∃ y, b[i]? = some y := ⟨_, List.getElem?_eq_getElem (by omega)⟩
        have hd := HB.out
        rw [sameB_drop a b i x y hx hy] at hd
        obtain ⟨ad, rfl, hlt1, h1⟩ := (HAA.out.below HW.out (Nat.le_refl _)) i x hx
        obtain ⟨ae, rfl, hlt2, h2⟩ := (HDD.out.below HW.out (Nat.le_refl _)) i y hy
        have hiw : IntKind.i64.wrap ((i : Int) + 1) = ((i + 1 : Nat) : Int) := by rw [IntWalk.i64_in _ (by omega)]; rfl
        obtain ⟨c0, c1, c2⟩ := h1
        obtain ⟨e0, e1, e2⟩ := h2
        cases hq : tkB x y with
        | true =>
          rw [hq, Bool.true_and] at hd
          obtain rfl := (tkB_iff x y).1 hq
          have HD := hide hd
          clear hd HB hx hy hq hlt1 hlt2
          obtain ⟨fr, many, data⟩ := x
          simp only at c0 c1 c2 e0 e1 e2
          go_wp2_with fail
          go_quiet (fail)
          go_wp2_with fail
          rename_i nq
          have HW2 := hide (below_drewN HW.out nq)
          go_roundg g0
          case rel => exact ⟨i + 1, rfl, by omega, HD, HW2⟩
          case measure => omega
        | false =>
          rw [hq, Bool.false_and] at hd
          have HD := hide hd
          have hfirst := tkB_first hq
          clear hd HB hx hy hq hlt1 hlt2
          obtain ⟨fr, many, data⟩ := x
          obtain ⟨fr', many', data'⟩ := y
          simp only at c0 c1 c2 e0 e1 e2 hfirst
          rcases hfirst with g1 | ⟨g1, g2⟩ | ⟨g1, g2, g3⟩
          all_goals
            go_wp2_with fail
            go_quiet (fail)
            go_wp2_with fail
            rename_i nq
            exact bodyPost_ret (results_tmp rfl _ _ _) rfl ⟨by rw [← HD.out]; rfl, below_drewN HW.out nq⟩
  · have hle : ¬ (a.length : Int) = b.length := by omega
    have HE := hide (show V = false by rw [hV]; exact sameB_len hl)
    clear hV
    go_enter Try.func44, Try.ntmps44
    go_wp2_with fail
    exact bodyPost_ret (results_tmp rfl _ _ _) rfl ⟨by rw [HE.out]; rfl, Below.refl _ _⟩
end Go.Proofs.Ytobgbheodlpclaa
