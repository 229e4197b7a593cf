/-
  Texts that belong together: BlkR, BkSeq, RoundRegion.
-/
import Derived.Test.YtobgbheodlpclaaAutoBytes
import Derived.Test.YtobgbheodlpclaaRangeK
import Derived.Test.YtobgbheodlpclaaBkBlocks
import Derived.Test.YtobgbheodlpclaaRangeB
import Derived.OwnWalkIn
import Derived.TacticsInMore
import Derived.LoopNIn
import Derived.LoopIn
import Derived.Shelf.Abstract
import Derived.Shelf.RegionOpen
import Derived.OrdersIn
import Derived.RangeFuncCalls
/-
  The blocks of bytes that an iterator reads.
-/
namespace Go.Proofs.Ytobgbheodlpclaa
open Go.RowKit
set_option maxRecDepth 100000

/-- The blocks of bytes. -/
def blkA : Option Addr → List Nat
  | none => []
  | some a => [a.block]
/-- The blocks of bytes, if there are any. -/
def blkR (A : Option Addr) : List UInt8 → List Nat
  | [] => []
  | _ :: _ => blkA A
theorem RdB.lies {U : Nat → Prop} {w w' : World} {B B' : Nat} {A : Option Addr} {l : List UInt8} (h : RdB w B A l) (hl : Lies U w w') (hU : ∀ k, k ∈ blkR A l → U k) (hB : B ≤ B') : RdB w' B' A l := fun k x hx => by
  have hU : ∀ k, k ∈ blkA A → U k := by
    cases l with
    | nil => simp at hx
    | cons y r => exact hU
  obtain ⟨ad, rfl, hb, hc⟩ := h k x hx
  refine ⟨ad, rfl, by omega, ?_⟩
  rw [← hc]
  unfold World.cell?
  rw [hl.2 _ (hU _ (by rw [add_block]; simp [blkA]))]

theorem blkR_lt {w : World} {A : Option Addr} {l : List UInt8} (h : RdB w w.heap.size A l) : ∀ k, k ∈ blkR A l → k < w.heap.size := fun k hk => by
  cases l with
  | nil => simp [blkR] at hk
  | cons y r =>
    cases A with
    | none => simp [blkR, blkA] at hk
    | some ad =>
      simp [blkR, blkA] at hk
      subst hk
      exact h.spot.2

end Go.Proofs.Ytobgbheodlpclaa
/-
  block.blocks: the iterator's contract.
-/
namespace Go.Proofs.Ytobgbheodlpclaa
open Go.RowKit Go.Shelf
set_option maxRecDepth 100000
attribute [local go_sem] Oper.semAt_some

/-- A block that is told: where it lies, its capacity, its bytes. -/
abbrev Told := Option Addr × Nat × List UInt8
/-- What is known of it. -/
def ToldAt (W : World) (x : Told) : Prop := RdB W W.heap.size x.1 x.2.2 ∧ Caps x.1 x.2.2.length x.2.1
theorem told_put (W : World) (k : Nat) (o o' : Loop) (x : Told) (h : W.heap[k]? = some (.loop o)) (hx : ToldAt W x) : ToldAt (W.putObj k (.loop o')) x := by
  refine ⟨fun j y hy => ?_, hx.2⟩
  obtain ⟨ad, e, hlt, hc⟩ := hx.1 j y hy
  have hs : W.heap.size ≤ (W.putObj k (.loop o')).heap.size := (grownBy_putObj' W k (.loop o')).size
  refine ⟨ad, e, by omega, ?_⟩
  rw [← hc]
  by_cases hk : (ad.add j).block = k
  · exfalso
    unfold World.cell? at hc
    rw [hk, h] at hc
    simp at hc
  · exact World.cell?_of_block (World.putObj_heap_other hk)

set_option maxHeartbeats 1000000 in
theorem blocks_any (A : Option Addr) (m c : Nat) (k : Int) (w : World) :
    Calls Try.prog 68 #[.slice A m c, .int .i64 k] w fun e w' => e = .returned (.func (.func 103) #[] #[.pointer (some ⟨w.heap.size, 0, none⟩), .pointer (some ⟨w.heap.size + 1, 0, none⟩)]) ∧ w' = (w.alloc (.cells #[.slice A m c] 22)).alloc (.cells #[.int .i64 k] 3) := by
  go_enter Try.func68, Try.ntmps68
  go_wp2_with fail
  go_ret
  exact ⟨rfl, rfl⟩

theorem blocksL_get (l : List UInt8) (size : Int) (k : Nat) (hk : k < (countN l.length size).toNat) : (blocksL l size)[k]? = some (blkL l size k) := by
  rw [List.getElem?_eq_getElem (by rw [blocksL_len]; exact hk)]
  simp [blocksL]

set_option maxHeartbeats 8000000 in
theorem blocks_seq (nn : Nat) (bb bs : Nat) (A : Option Addr) (l : List UInt8) (c : Nat) (size : Int) (w : World) (hA : RdB w w.heap.size A l) (hc : Caps A l.length c) (hl : l.length ≤ 40000)
    (l1 : bb < w.heap.size) (l2 : bs < w.heap.size)
    (c1 : w.heap[bb]? = some (.cells #[.slice A l.length c] 22 (0, 0))) (c2 : w.heap[bs]? = some (.cells #[.int .i64 size] 3 (0, 0))) :
    SeqB Fence.wide nn Try.prog 103 #[.pointer (some ⟨bb, 0, none⟩), .pointer (some ⟨bs, 0, none⟩)] (fun x : Told => #[.slice x.1 x.2.2.length x.2.1]) [] (bb :: bs :: blkR A l)
      (fun xs => xs.map (·.2.2) = blocksL l size) (fun pre => pre.map (·.2.2) <+: blocksL l size) ToldAt w := by
  intro lp J Jx W hW hJ hJx hY h0
  have hJ := hJ W.heap.size (Nat.le_refl _)
  have hY := fun pre x W1 => hY W.heap.size pre x W1 (Nat.le_refl _)
  have h0 := h0 W.heap.size (Nat.le_refl _)
  refine (CallsIn.mono ?_ (fun e W' (h : (∃ v, e = Ending.returned v) ∧ ((∃ xs : List Told, xs.map (·.2.2) = blocksL l size ∧ J W.heap.size xs W') ∨ (∃ pre : List Told, pre.map (·.2.2) <+: blocksL l size ∧ Jx W.heap.size pre W'))) => ⟨h.1, W.heap.size, Nat.le_refl _, h.2⟩))
  have k1 : W.heap[bb]? = some (.cells #[.slice A l.length c] 22 (0, 0)) := (hW.block _ l1).trans c1
  have k2 : W.heap[bs]? = some (.cells #[.int .i64 size] 3 (0, 0)) := (hW.block _ l2).trans c2
  have hAW := (hA.below hW (Nat.le_refl _)).mono hW.size
  have hsz := hW.size
  clear c1 c2 hW hJx hA
  have d1 : W.cell? ⟨bb, 0, none⟩ = some (.slice A l.length c) := cell_of_row _ _ _ _ _ _ k1
  have d2 : W.cell? ⟨bs, 0, none⟩ = some (.int .i64 size) := cell_of_row _ _ _ _ _ _ k2
  have hnn := countN_nn l.length size
  have hle := countN_le l.length size
  obtain ⟨N, hN⟩ : ∃ N : Nat, countN l.length size = N := ⟨(countN l.length size).toNat, by omega⟩
  have HCo := hide (fun W2 => count_any l.length size W2 (by omega))
  have HGet := hide (fun (k : Nat) (hk : k < N) => (⟨blocksL_get l size k (by omega), blocks_take l size k (by omega)⟩ : (blocksL l size)[k]? = some (blkL l size k) ∧ (blocksL l size).take (k + 1) = (blocksL l size).take k ++ [blkL l size k]))
  have HAll := hide (show (blocksL l size).take N = blocksL l size by rw [List.take_of_length_le]; rw [blocksL_len]; omega)
  rw [hN] at HCo
  have hNl : N ≤ 40000 := by omega
  clear hnn hle hN
  generalize blocksL l size = L at HGet HAll hY ⊢
  refine callsIn_of_wp Try.func103 rfl trivial ?_ rfl
  simp only [Try.ntmps103, List.size_toArray, List.length_cons, List.length_nil, Nat.reduceAdd, Nat.reduceSub, Array.replicate_succ, Array.replicate_zero, List.push_toArray, List.append_toArray, List.nil_append, List.cons_append]
  gi_wp2_with fail
  refine ⟨trivial, fun h => (by cases h), (callsIn_wide.2 (HCo.out _)).mono ?_⟩
  rintro e W1 ⟨rfl, rfl⟩
  have HJ := hide hJ
  have HY := hide hY
  have HH0 := hide h0
  have HA := hide hAW
  clear hJ hY h0 hAW d1 d2
  clear hJ hY h0
  gi_wp2_with fail
  gi_loopw [9] (fun iv wr => ∃ (i : Nat) (pre : List Told), i ≤ N ∧ iv = .int .i64 i ∧ Hid (pre.map (·.2.2) = L.take i) ∧ wr.heap[bb]? = some (.cells #[.slice A l.length c] 22 (0, 0)) ∧ wr.heap[bs]? = some (.cells #[.int .i64 size] 3 (0, 0)) ∧ Hid (RdB wr wr.heap.size A l) ∧ W1.heap.size ≤ wr.heap.size ∧ Hid (J W1.heap.size pre wr)) (fun iv _ => N - (intOf iv).toNat)
  case atStart => exact ⟨0, [], by omega, rfl, hide (by simp), k1, k2, HA, Nat.le_refl _, HH0⟩
  case round =>
    obtain ⟨i, pre, hi, rfl, HP, e1, e2, HR, hwz, HJr⟩ := hrel
    clear k1 k2 HA HH0
    have f1 : wr.cell? ⟨bb, 0, none⟩ = some (.slice A l.length c) := cell_of_row _ _ _ _ _ _ e1
    have f2 : wr.cell? ⟨bs, 0, none⟩ = some (.int .i64 size) := cell_of_row _ _ _ _ _ _ e2
    by_cases hlt : (i : Int) < N
    · have hiN : i < N := by omega
      have hii : (N : Int) ≤ 40000 := by omega
      have HAt := hide (at_any A l c size i wr HR.out hc (by omega))
      obtain ⟨g1, g2⟩ := HGet.out i hiN
      have hbl := blkL_len l size i
      gi_wp2_with fail
      refine ⟨trivial, fun h => (by cases h), (callsIn_wide.2 HAt.out).mono ?_⟩
      rintro e W2 ⟨D, d, rfl, hO2, hB2⟩
      have hR2 := HR.out.step hB2
      have b1 := (hB2.block bb (Array.getElem?_eq_some_iff.1 e1).1).trans e1
      have b2 := (hB2.block bs (Array.getElem?_eq_some_iff.1 e2).1).trans e2
      have hz2 : W1.heap.size ≤ W2.heap.size := Nat.le_trans hwz hB2.size
      have hJ2 := HJ.out _ _ _ none HJr.out (grownBy_below hB2) (fun r e => by cases e)
      have hP2 : (pre ++ [((D, d, blkL l size i) : Told)]).map (·.2.2) = L.take (i + 1) := by
        rw [List.map_append, HP.out, g2]; rfl
      obtain ⟨fn, tmps, assign, body, hy, hRd⟩ := HY.out pre (D, d, blkL l size i) W2 hz2 hJ2 (by rw [hP2]; exact List.take_prefix _ _) ⟨RdB.own hO2, ownsRow_caps hO2⟩
      have HRy := hide hRd
      have HP2 := hide hP2
      clear hRd hJ2 hP2 hO2 HAt g1 g2 HJr HP f1 f2 e1 e2 HR hwz
      simp only at hy HRy
      generalize blkL l size i = bl at hy HRy HP2 hbl ⊢
      gi_wp2_with fail
      refine ⟨fun h => (by cases h), HRy.out.mono ?_⟩
      rintro e W' (⟨rfl, hJ', hk⟩ | ⟨rfl, hJx', hk⟩)
      · have p1 := (hk.2 bb (.inr (by simp))).trans b1
        have p2 := (hk.2 bs (.inr (by simp))).trans b2
        have HR' := hide (hR2.lies hk (fun k hk => .inr (by simp [hk])) hk.1)
        have hz' : W1.heap.size ≤ W'.heap.size := Nat.le_trans hz2 hk.1
        have HJ' := hide hJ'
        have hiw : IntKind.i64.wrap ((i : Int) + 1) = ((i + 1 : Nat) : Int) := by rw [IntWalk.i64_in _ (by omega)]; rfl
        clear HRy hy b1 b2 hR2 hk hJ' hB2
        gi_wp2_with fail
        go_roundw
        case rel => exact ⟨i + 1, _, by omega, rfl, HP2, p1, p2, HR', hz', HJ'⟩
        case measure => simp [intOf]; omega
      · have HJx := hide (And.intro HP2.out hJx')
        clear HRy hy b1 b2 hR2 hk hJx' hB2
        gi_wp2_with fail
        refine bodyPost_ret (results_none rfl _ _ _) rfl ?_
        exact ⟨⟨_, rfl⟩, .inr ⟨_, by rw [HJx.out.1]; exact List.take_prefix _ _, HJx.out.2⟩⟩
    · obtain rfl : i = N := by omega
      have HF := hide (show pre.map (·.2.2) = L by rw [HP.out, HAll.out])
      clear e1 e2 f1 f2 HR HP
      gi_wp2_with fail
      go_end0
      exact ⟨⟨_, rfl⟩, .inl ⟨_, HF.out, HJr.out⟩⟩
end Go.Proofs.Ytobgbheodlpclaa
/-
  A region that draws its order, in a round of a range over a function, is walked as anywhere.
-/
namespace Go.Proofs.Ytobgbheodlpclaa
open Go.RowKit
set_option maxRecDepth 100000

variable {P : Program} {ops : Array Oper} {Q : Exit → Act → World → Prop}

theorem upon_round (l n : Nat) (o : Oper) (a : Act) (K : Act → World → Prop) (r : Result Next) (h : o.upon P a K Q r) : o.uponIn (Fence.wide.inRound l) n P a K Q r := by
  unfold Oper.upon at h
  unfold Oper.uponIn
  split at h
  · exact h
  · exact h
  · exact h
  · refine ⟨fun q => (by cases q), (CallsIn.inRound l (callsIn_wide.2 h)).mono ?_⟩
    intro e w'' q
    cases e <;> exact q
  · rename_i row args w'
    refine ⟨fun q => (by cases q), fun c cs _ => ?_⟩
    obtain ⟨v, w'', q1, q2⟩ := h c cs
    exact ⟨v, w'', q1, stepsIn_wide.2 q2⟩
  · exact h
  · exact h.elim
theorem wp_round (l n : Nat) (o : Oper) (hd : ∀ c, o.op ≠ .defer c) (a : Act) (w : World) (K : Act → World → Prop) (h : o.wp P a w K Q) : o.wpIn (Fence.wide.inRound l) n P a w K Q := by
  refine ⟨fun _ _ => trivial, ?_⟩
  rw [Oper.semAt_plain _ _ _ hd]
  exact upon_round l n o a K _ h
theorem wpAny_round (l n : Nat) (md : Region.Mode) (hd : ∀ (i : Nat) (o : Oper), ops[i]? = some o → ∀ c, o.op ≠ .defer c) (hQ : ¬ LetsOut Q) : ∀ (fuel : Nat) (listed : Array Bool) (a : Act) (w : World), wpAny P md ops Q fuel listed a w → wpAnyIn (Fence.wide.inRound l) n P md ops Q fuel listed a w
  | 0, _, _, _, h => h
  | fuel + 1, listed, a, w, h => by
    refine ⟨h.1, fun i hi => ?_⟩
    have h2 := h.2 i hi
    unfold wpOp at h2
    unfold wpOpIn
    cases ho : ops[i]? with
    | none =>
      rw [ho] at h2
      exact wpAny_round l n md hd hQ fuel _ a w h2
    | some o =>
      rw [ho] at h2
      simp only at h2 ⊢
      split
      · rename_i hw
        rw [if_pos hw] at h2
        rcases h2 with h2 | h2
        · exact Oper.wpIn_mono (fun a' w' q => wpAny_round l n md hd hQ fuel _ a' w' q) (wp_round l n o (hd i o ho) a w _ h2)
        · exact absurd h2.2 hQ
      · rename_i hw
        rw [if_neg hw] at h2
        exact ⟨fun _ _ => trivial, wpAny_round l n md hd hQ fuel _ _ w h2⟩
/-- No operation defers. -/
def calmOps (ops : Array Oper) : Bool := ops.all fun o => match o.op with | .defer _ => false | _ => true
/-- The region, as anywhere. -/
theorem region_round (l n : Nat) {id : Nat} {a : Act} {w : World} (hm : P.follows .mixedOrders = true) (hd : calmOps ops = true) (hQ : ¬ LetsOut Q)
    (h : wpAny P .any ops Q ops.size (Array.replicate ops.size false) a w.drew) : (Code.region id ops true).wpIn (Fence.wide.inRound l) n P Q a w :=
  wpIn_region_any hm (wpAny_round l n .any (fun i o ho c e => by
    unfold calmOps at hd
    rw [Array.all_eq_true] at hd
    obtain ⟨hlt, rfl⟩ := Array.getElem?_eq_some_iff.1 ho
    have := hd i hlt
    rw [e] at this
    cases this) hQ _ _ _ _ h)
/-- append, at a step: by its run. -/
theorem step_append_run {o : Oper} {a : Act} {w : World} {K : Act → World → Prop} {E : Prop} (hgd : o.guard = none) (s x : Operand) (t : TypeId)
    (ho : o.op = .call { callee := .builtin .append, args := #[s, x], argTypes := #[t, t] }) (v y : Value) (hs : a.eval s = v) (hx : a.eval x = y) (r : Value) (w' : World)
    (hrun : (Builtin.append_ #[t, t] o.type #[v, y]).run P w = .ok r w') (h : K (a.put o.dst r) w') : if Region.wanted o (yielded ops a.tmps) = true then Oper.wp P o a w K Q else E := by
  have hw : Region.wanted o (yielded ops a.tmps) = true := by simp [Region.wanted, hgd]
  rw [if_pos hw]
  unfold Oper.wp execOp
  simp only [ho, resolve, invoke, builtin, Sem.run_bind, Sem.run_pure, Result.andThen_ok, List.map_toArray, List.map_cons, List.map_nil, hs, hx, hrun]
  exact h
end Go.Proofs.Ytobgbheodlpclaa
