/-
  sketch: the words of bytes, as a sequence.
-/
import Derived.Test.YtpefcadlejcbbaaSkShL
import Derived.Test.YtpefcadlejcbbaaBlkR
import Derived.Deep.RegionHeld3
import Derived.OwnWalkIn
import Derived.TacticsInMore
import Derived.LoopNIn
import Derived.LoopIn
import Derived.Shelf.Abstract
import Derived.Shelf.RegionOpen
namespace Go.Proofs.Ytpefcadlejcbbaa
open Go.RowKit
set_option maxRecDepth 100000
attribute [local go_sem] Oper.semAt_some

theorem sk_mid (w : World) (ad : Addr) (L c j m : Nat) (h1 : j ≤ m) (h2 : m ≤ c) (h3 : j < c) :
    (Instr.slice 22 (.slice (some ad) L c) (some (.int .i64 j)) (some (.int .i64 m)) none).run Try.prog w = .ok (.slice (some (ad.add j)) (m - j) (c - j)) w := by
  have hc : ¬ c = j := by omega
  have a1 : (j : Int) ≤ m := by omega
  have a2 : (m : Int) ≤ c := by omega
  simp [Instr.slice, Instr.sliceBounds, Instr.sliceBound, asIntOf, run_underlying Try.underlying22, go_sem, hc, h1, h2]
theorem sk_sub {w : World} {B : Nat} {ad : Addr} {l : List UInt8} (h : RdB w B (some ad) l) (j : Nat) : RdB w B (some (ad.add j)) (shAt l j) := fun i x hx => by
  unfold shAt at hx
  rw [List.getElem?_take] at hx
  split at hx
  · rw [List.getElem?_drop] at hx
    obtain ⟨ad', e, hb, hc⟩ := h (j + i) x hx
    cases e
    refine ⟨_, rfl, by rw [add_block]; exact hb, ?_⟩
    have e : (ad.add j).add i = ad.add (j + i) := by
      unfold Addr.add
      by_cases hi : j = 0 <;> by_cases hj : i = 0 <;> simp [hi, hj, Nat.add_assoc]
    rw [e]; exact hc
  · cases hx

set_option maxHeartbeats 8000000 in
theorem shingles_seq (nn : Nat) (bb : Nat) (A : Option Addr) (l : List UInt8) (c : Nat) (w : World) (hA : RdB w w.heap.size A l) (hc : l.length ≤ c) (hl : l.length ≤ 40000)
    (l2 : bb < w.heap.size) (c2 : w.heap[bb]? = some (.cells #[.slice A l.length c] 22 (0, 0))) :
    SeqK Fence.wide nn Try.prog 51 #[.pointer (some ⟨bb, 0, none⟩)] (fun x : Nat => #[.int .u64 (x : Nat)]) [] (bb :: blkR A l)
      (fun xs => xs = shL l) (fun pre => pre <+: shL l) w := by
  intro lp J Jx W hW hJ hJx hY h0
  have hY := fun pre x W1 => hY W.heap.size pre x W1 (Nat.le_refl _)
  have h0 := h0 W.heap.size (Nat.le_refl _)
  refine (CallsIn.mono ?_ (fun e W' (h : (∃ v, e = Ending.returned v) ∧ ((∃ xs : List Nat, xs = shL l ∧ J W.heap.size xs W') ∨ (∃ pre : List Nat, pre <+: shL l ∧ Jx W.heap.size pre W'))) => ⟨h.1, W.heap.size, Nat.le_refl _, h.2⟩))
  have k2 : W.heap[bb]? = some (.cells #[.slice A l.length c] 22 (0, 0)) := (hW.block _ l2).trans c2
  have hAW := (hA.below hW (Nat.le_refl _)).mono hW.size
  have hsz := hW.size
  clear c2 hW hJx hA hJ
  have d2 : W.cell? ⟨bb, 0, none⟩ = some (.slice A l.length c) := cell_of_row _ _ _ _ _ _ k2
  refine callsIn_of_wp Try.func51 rfl trivial ?_ rfl
  simp only [Try.ntmps51, List.size_toArray, List.length_cons, List.length_nil, Nat.reduceAdd, Nat.reduceSub, Array.replicate_succ, Array.replicate_zero, List.push_toArray, List.append_toArray, List.nil_append, List.cons_append]
  by_cases hn : l = []
  · subst hn
    clear hY hAW
    gi_wp2_with fail
    have HH := hide h0
    clear h0
    gi_loopw [4] (fun at_ wr => at_ = .int .i64 0 ∧ wr = W) (fun _ _ => 0)
    case atStart => exact ⟨rfl, rfl⟩
    case round =>
      obtain ⟨rfl, rfl⟩ := hrel
      gi_wp2_with fail
      go_end0
      exact ⟨⟨_, rfl⟩, .inl ⟨_, rfl, HH.out⟩⟩
  · have hpos : 0 < l.length := List.length_pos_iff.2 hn
    obtain ⟨n, hnE⟩ : ∃ n, n = ofN l := ⟨_, rfl⟩
    have hn1 : 1 ≤ n := by rw [hnE]; unfold ofN; omega
    have hn2 : n ≤ l.length := by rw [hnE]; unfold ofN; omega
    have hn4 : n ≤ 4 := by rw [hnE]; unfold ofN; omega
    have hmin : (if (4 : Int) < (l.length : Int) then (4 : Int) else (l.length : Int)) = (n : Int) := by rw [hnE]; unfold ofN; split <;> omega
    have hlen := hide (shL_len l hn)
    have hn0 : (0 : Int) < (n : Int) := by omega
    have hni : (n : Int) ≤ (l.length : Int) := by omega
    have hll : (l.length : Int) ≤ 40000 := by omega
    have HY := hide hY
    have HE := hide hnE
    clear hY hnE
    gi_wp2_with fail
    have HH := hide h0
    clear h0
    gi_loopw [4] (fun at_ wr => ∃ i : Nat, i + n ≤ l.length + 1 ∧ at_ = .int .i64 i ∧ wr.heap[bb]? = some (.cells #[.slice A l.length c] 22 (0, 0)) ∧ RdB wr wr.heap.size A l ∧ W.heap.size ≤ wr.heap.size ∧ J W.heap.size ((shL l).take i) wr) (fun at_ _ => l.length + 1 - (intOf at_).toNat)
    case atStart => exact ⟨0, by omega, rfl, k2, hAW, Nat.le_refl _, HH.out⟩
    case round =>
      clear HH k2 hAW d2
      obtain ⟨i, hi, rfl, e2, hR, hwz, hj⟩ := hrel
      have f2 : wr.cell? ⟨bb, 0, none⟩ = some (.slice A l.length c) := cell_of_row _ _ _ _ _ _ e2
      have hsub : IntKind.i64.wrap ((l.length : Int) - (n : Int)) = (l.length : Int) - (n : Int) := IntWalk.i64_in _ (by omega)
      by_cases hlt : i + n ≤ l.length
      · have hli : (i : Int) ≤ (l.length : Int) - (n : Int) := by omega
        have hxA := hR 0 _ (List.getElem?_eq_getElem hpos)
        obtain ⟨ad, rfl, _, _⟩ := hxA
        have hT := shL_take l i hn (by rw [← HE.out]; exact hlt)
        have hsl := shAt_len l i (by rw [← HE.out]; exact hlt)
        have HWd := hide (fun (W2 : World) (h : RdB W2 W2.heap.size (some ad) l) => word_any (ad.add i) (shAt l i) (c - i) W2 (sk_sub h i) (by rw [hsl, ← HE.out]; exact hn4))
        rw [hsl, ← HE.out] at HWd
        generalize wordL (shAt l i) = x at hT HWd
        obtain ⟨fn, tmps, assign, body, hy, hRd⟩ := HY.out ((shL l).take i) x wr hwz hj (by rw [hT]; exact List.take_prefix _ _)
        rw [hT] at hRd
        have HR := hide hRd
        have HWr := hide (HWd.out wr hR)
        have HB := hide (And.intro e2 hR)
        have hsm := fun W2 : World => sk_mid W2 ad l.length c i (i + n) (by omega) (by omega) (by omega)
        rw [show i + n - i = n by omega] at hsm
        obtain ⟨q, hq⟩ : ∃ q, q = i + n := ⟨_, rfl⟩
        rw [← hq] at hsm
        have hqi : (i : Int) + (n : Int) = (q : Int) := by omega
        have hqw : IntKind.i64.wrap (q : Int) = (q : Int) := IntWalk.i64_in _ (by omega)
        clear hRd hj hT hsl HWd e2 hR hq
        gi_wp2_with fail
        refine ⟨trivial, fun h => (by cases h), (callsIn_wide.2 HWr.out).mono ?_⟩
        rintro e W1 ⟨rfl, rfl⟩
        gi_wp2_with fail
        refine ⟨fun h => (by cases h), HR.out.mono ?_⟩
        rintro e W' (⟨rfl, hJ', hk⟩ | ⟨rfl, hJx', hk⟩)
        · have HX := hide (And.intro ((hk.2 bb (.inr (by simp))).trans HB.out.1) (And.intro (HB.out.2.lies hk (fun k hk => .inr (by simp [hk])) hk.1) (And.intro (Nat.le_trans hwz hk.1) hJ')))
          clear hk hJ' HR HWr HB hy f2
          gi_wp2_with fail
          go_roundw
          case rel => exact ⟨i + 1, by omega, rfl, HX.out⟩
          case measure => simp [intOf]; omega
        · have HX := hide hJx'
          clear hk hJx' HR HWr HB hy f2
          gi_wp2_with fail
          refine bodyPost_ret (results_none rfl _ _ _) rfl ?_
          exact ⟨⟨_, rfl⟩, .inr ⟨_, List.take_prefix _ _, HX.out⟩⟩
      · have hli : ¬ (i : Int) ≤ (l.length : Int) - (n : Int) := by omega
        have HF := hide (show (shL l).take i = shL l by rw [List.take_of_length_le]; rw [hlen.out, ← HE.out]; omega)
        have HJ := hide hj
        clear hj e2 hR
        gi_wp2_with fail
        go_end0
        have h := HJ.out
        rw [HF.out] at h
        exact ⟨⟨_, rfl⟩, .inl h⟩
end Go.Proofs.Ytpefcadlejcbbaa
