/-
  roll.Windows, windows: the iterator's contract.
-/
import Derived.Test.YtklficpogeidlaaRollOf
import Derived.Test.YtklficpogeidlaaRangeK
import Derived.Deep.RegionHeld3
import Derived.OwnWalkIn
import Derived.TacticsInMore
import Derived.LoopNIn
import Derived.LoopIn
import Derived.Shelf.Abstract
import Derived.Shelf.RegionOpen
namespace Go.Proofs.Ytklficpogeidlaa
open Go.RowKit Go.Shelf
set_option maxRecDepth 100000
attribute [local go_sem] Oper.semAt_some

/-- A window. -/
def winAt (l : List UInt8) (n i : Nat) : List UInt8 := (l.drop i).take n
/-- All windows: place and weak sum. -/
def winL (l : List UInt8) (k : Int) : List (Nat × Nat) := if k < 1 then [] else (List.range (l.length + 1 - k.toNat)).map fun i => (i, weakN (winAt l k.toNat i))
theorem winL_none (l : List UInt8) (k : Int) (h : k < 1 ∨ (l.length : Int) < k) : winL l k = [] := by
  unfold winL
  split
  · rfl
  · rw [show l.length + 1 - k.toNat = 0 by omega]; rfl
theorem winL_len (l : List UInt8) (n : Nat) (h : 1 ≤ n) : (winL l n).length = l.length + 1 - n := by
  unfold winL
  rw [if_neg (by omega)]
  simp
theorem winL_at (l : List UInt8) (n i : Nat) (h : 1 ≤ n) (hi : i + n ≤ l.length) : (winL l n)[i]? = some (i, weakN (winAt l n i)) := by
  unfold winL
  rw [if_neg (by omega), List.getElem?_map, List.getElem?_range (by simp; omega)]
  simp
theorem winL_take (l : List UInt8) (n i : Nat) (h : 1 ≤ n) (hi : i + n ≤ l.length) : (winL l n).take i ++ [(i, weakN (winAt l n i))] = (winL l n).take (i + 1) := by
  rw [List.take_add_one, winL_at l n i h hi]; rfl
/-- The blocks of bytes. -/
def blkL : Option Addr → List Nat
  | none => []
  | some a => [a.block]
/-- The blocks of bytes, if there are any. -/
def blkR (A : Option Addr) : List UInt8 → List Nat
  | [] => []
  | _ :: _ => blkL A
theorem RdB.lies {U : Nat → Prop} {w w' : World} {B B' : Nat} {A : Option Addr} {l : List UInt8} (h : RdB w B A l) (hl : Lies U w w') (hU : ∀ k, k ∈ blkR A l → U k) (hB : B ≤ B') : RdB w' B' A l := fun k x hx => by
  have hU : ∀ k, k ∈ blkL A → U k := by
    cases l with
    | nil => simp at hx
    | cons y r => exact hU
  obtain ⟨ad, rfl, hb, hc⟩ := h k x hx
  refine ⟨ad, rfl, by omega, ?_⟩
  rw [← hc]
  unfold World.cell?
  rw [hl.2 _ (hU _ (by rw [add_block]; simp [blkL]))]

set_option maxHeartbeats 1000000 in
theorem windows_any (A : Option Addr) (m c : Nat) (k : Int) (w : World) :
    Calls Try.prog 50 #[.slice A m c, .int .i64 k] w fun e w' => e = .returned (.func (.func 55) #[] #[.pointer (some ⟨w.heap.size + 1, 0, none⟩), .pointer (some ⟨w.heap.size, 0, none⟩)]) ∧ w' = (w.alloc (.cells #[.slice A m c] 22)).alloc (.cells #[.int .i64 k] 3) := by
  go_enter Try.func50, Try.ntmps50
  go_wp2_with fail
  go_ret
  exact ⟨rfl, rfl⟩

theorem blkR_lt {w : World} {A : Option Addr} {l : List UInt8} (h : RdB w w.heap.size A l) : ∀ k, k ∈ blkR A l → k < w.heap.size := fun k hk => by
  cases l with
  | nil => simp [blkR] at hk
  | cons y r =>
    cases A with
    | none => simp [blkR, blkL] at hk
    | some ad =>
      simp [blkR, blkL] at hk
      subst hk
      exact h.spot.2

theorem winAt_step (l : List UInt8) (n i : Nat) (h : 1 ≤ n) (hi : i + n < l.length) : ∃ t, winAt l n i = l[i]'(by omega) :: t ∧ winAt l n (i + 1) = t ++ [l[i + n]'hi] ∧ t.length + 1 = n := by
  refine ⟨(l.drop (i + 1)).take (n - 1), ?_, ?_, by simp; omega⟩
  · unfold winAt
    obtain ⟨m, rfl⟩ : ∃ m, n = m + 1 := ⟨n - 1, by omega⟩
    rw [List.drop_eq_getElem_cons (by omega), List.take_succ_cons, Nat.add_sub_cancel]
  · unfold winAt
    obtain ⟨m, rfl⟩ : ∃ m, n = m + 1 := ⟨n - 1, by omega⟩
    have e : (l.drop (i + 1)).length = l.length - (i + 1) := by simp
    rw [← List.take_append_getElem (by rw [e]; omega), Nat.add_sub_cancel, List.getElem_drop]
    congr 2
    simp only [show i + 1 + m = i + (m + 1) by omega]

theorem keepW {w0 w1 w2 : World} {p q r s : Addr} {x y z u : Value} (h : w1.cell? p = some x ∧ w1.cell? q = some y ∧ w1.cell? r = some z ∧ w1.cell? s = some u ∧ Below w0.heap.size w0 w1) (hb : Below w1.heap.size w1 w2) :
    w2.cell? p = some x ∧ w2.cell? q = some y ∧ w2.cell? r = some z ∧ w2.cell? s = some u ∧ Below w0.heap.size w0 w2 := by
  obtain ⟨h1, h2, h3, h4, h5⟩ := h
  exact ⟨(hb.cell (cell_lt h1)).trans h1, (hb.cell (cell_lt h2)).trans h2, (hb.cell (cell_lt h3)).trans h3, (hb.cell (cell_lt h4)).trans h4, h5.trans (hb.mono h5.size)⟩

set_option maxHeartbeats 8000000 in
theorem windows_seq (nn : Nat) (bn bb : Nat) (A : Option Addr) (l : List UInt8) (c : Nat) (k : Int) (w : World) (hA : RdB w w.heap.size A l) (hc : l.length ≤ c) (hl : l.length ≤ 40000)
    (l1 : bn < w.heap.size) (l2 : bb < w.heap.size)
    (c1 : w.heap[bn]? = some (.cells #[.int .i64 k] 3 (0, 0))) (c2 : w.heap[bb]? = some (.cells #[.slice A l.length c] 22 (0, 0))) :
    SeqK Fence.wide nn Try.prog 55 #[.pointer (some ⟨bn, 0, none⟩), .pointer (some ⟨bb, 0, none⟩)] (fun x : Nat × Nat => #[.int .i64 (x.1 : Nat), .int .u32 (x.2 : Nat)]) [] (bn :: bb :: blkR A l)
      (fun xs => xs = winL l k) (fun pre => pre <+: winL l k) w := by
  intro lp J Jx W hW hJ hJx hY h0
  have hJ := hJ W.heap.size (Nat.le_refl _)
  have hY := fun pre x W1 => hY W.heap.size pre x W1 (Nat.le_refl _)
  have h0 := h0 W.heap.size (Nat.le_refl _)
  refine (CallsIn.mono ?_ (fun e W' (h : (∃ v, e = Ending.returned v) ∧ ((∃ xs : List (Nat × Nat), xs = winL l k ∧ J W.heap.size xs W') ∨ (∃ pre : List (Nat × Nat), pre <+: winL l k ∧ Jx W.heap.size pre W'))) => ⟨h.1, W.heap.size, Nat.le_refl _, h.2⟩))
  have k1 : W.heap[bn]? = some (.cells #[.int .i64 k] 3 (0, 0)) := (hW.block _ l1).trans c1
  have k2 : W.heap[bb]? = some (.cells #[.slice A l.length c] 22 (0, 0)) := (hW.block _ l2).trans c2
  have hAW := (hA.below hW (Nat.le_refl _)).mono hW.size
  have hsz := hW.size
  clear c1 c2 hW hJx hA
  have d1 : W.cell? ⟨bn, 0, none⟩ = some (.int .i64 k) := cell_of_row _ _ _ _ _ _ k1
  have d2 : W.cell? ⟨bb, 0, none⟩ = some (.slice A l.length c) := cell_of_row _ _ _ _ _ _ k2
  by_cases hk : k < 1 ∨ (l.length : Int) < k
  · have HN := hide (winL_none l k hk)
    refine callsIn_of_wp Try.func55 rfl trivial ?_ rfl
    simp only [Try.ntmps55, List.size_toArray, List.length_cons, List.length_nil, Nat.reduceAdd, Nat.reduceSub, Array.replicate_succ, Array.replicate_zero, List.push_toArray, List.append_toArray, List.nil_append, List.cons_append]
    clear hY hJ hAW
    by_cases hk1 : k < 1
    · clear hk
      gi_wp2_with fail
      refine bodyPost_ret (results_none rfl _ _ _) rfl ?_
      exact ⟨⟨_, rfl⟩, .inl (by rw [HN.out]; exact h0)⟩
    · have hk2 : (l.length : Int) < k := by omega
      clear hk
      gi_wp2_with fail
      refine bodyPost_ret (results_none rfl _ _ _) rfl ?_
      exact ⟨⟨_, rfl⟩, .inl (by rw [HN.out]; exact h0)⟩
  · obtain ⟨n, rfl⟩ : ∃ n : Nat, k = n := ⟨k.toNat, by omega⟩
    have n1 : 1 ≤ n := by omega
    have n2 : n ≤ l.length := by omega
    have n1i : (1 : Int) ≤ n := by omega
    have n2i : (n : Int) ≤ l.length := by omega
    have n3i : (n : Int) ≤ c := by omega
    have nli : (l.length : Int) ≤ 40000 := by omega
    have hA0 : RdB W W.heap.size A (l.take n) := fun j x hx => hAW j x (by
      rw [List.getElem?_take] at hx
      split at hx
      · exact hx
      · cases hx)
    have HO := hide (show Calls Try.prog 24 #[.slice A n c] W fun e w' => e = .returned (.int .u32 (weakN (l.take n) : Nat)) ∧ Below W.heap.size W w' from by
      have h := rollOf_any A (l.take n) c W hA0 (by simp; omega)
      rw [List.length_take, Nat.min_eq_left n2] at h
      exact h)
    refine callsIn_of_wp Try.func55 rfl trivial ?_ rfl
    simp only [Try.ntmps55, List.size_toArray, List.length_cons, List.length_nil, Nat.reduceAdd, Nat.reduceSub, Array.replicate_succ, Array.replicate_zero, List.push_toArray, List.append_toArray, List.nil_append, List.cons_append]
    clear hk
    gi_wp2_with fail
    refine ⟨trivial, fun h => (by cases h), (callsIn_wide.2 HO.out).mono ?_⟩
    rintro e W1 ⟨rfl, hB1⟩
    gi_wp2_with fail
    have g1 : W1.heap[bn]? = some (.cells #[.int .i64 n] 3 (0, 0)) := (hB1.block _ (by omega)).trans k1
    have g2 : W1.heap[bb]? = some (.cells #[.slice A l.length c] 22 (0, 0)) := (hB1.block _ (by omega)).trans k2
    have hA1 := (hAW.below hB1 (Nat.le_refl _)).mono hB1.size
    have hz1 := hB1.size
    have hj1 : J W.heap.size [] W1 := hJ _ _ _ none h0 (grownBy_below hB1) (fun r e => by cases e)
    have HJ := hide hJ
    have HY := hide hY
    clear HO hB1 k1 k2 hAW h0 d1 d2 hA0 hJ hY
    gi_loopw [4, 5] (fun s at_ wr => ∃ i : Nat, i + n ≤ l.length ∧ at_ = .int .i64 i ∧ Hid (s = .int .u32 (weakN (winAt l n i) : Nat)) ∧ wr.heap[bn]? = some (.cells #[.int .i64 n] 3 (0, 0)) ∧ wr.heap[bb]? = some (.cells #[.slice A l.length c] 22 (0, 0)) ∧ RdB wr wr.heap.size A l ∧ W.heap.size ≤ wr.heap.size ∧ J W.heap.size ((winL l n).take i) wr) (fun _ at_ _ => l.length - (intOf at_).toNat)
    case atStart => exact ⟨0, by omega, rfl, hide (by simp [winAt]), g1, g2, hA1, hz1, by simpa using hj1⟩
    case round =>
      obtain ⟨i, hi, rfl, HS, e1, e2, hR, hwz, hj⟩ := hrel
      clear g1 g2 hA1 hz1 hj1
      have hsv := HS.out
      obtain ⟨s, hs⟩ : ∃ s, s = weakN (winAt l n i) := ⟨_, rfl⟩
      rw [← hs] at hsv
      subst hsv
      have HS2 := hide hs
      clear HS hs
      have f1 : wr.cell? ⟨bn, 0, none⟩ = some (.int .i64 n) := cell_of_row _ _ _ _ _ _ e1
      have f2 : wr.cell? ⟨bb, 0, none⟩ = some (.slice A l.length c) := cell_of_row _ _ _ _ _ _ e2
      have HT := hide (show (winL l n).take i ++ [(i, s)] = (winL l n).take (i + 1) by rw [HS2.out]; exact winL_take l n i n1 hi)
      obtain ⟨fn, tmps, assign, body, hy, hRd⟩ := HY.out ((winL l n).take i) (i, s) wr hwz hj (by rw [HT.out]; exact List.take_prefix _ _)
      rw [HT.out] at hRd
      have HR := hide hRd
      clear hRd hj
      gi_wp2_with fail
      refine ⟨fun h => (by cases h), HR.out.mono ?_⟩
      rintro e W' (⟨rfl, hJ', hk⟩ | ⟨rfl, hJx', hk⟩)
      · have b1 := (hk.2 bn (.inr (by simp))).trans e1
        have b2 := (hk.2 bb (.inr (by simp))).trans e2
        have hR' := hR.lies hk (fun k hk => .inr (by simp [hk])) hk.1
        have hz' : W.heap.size ≤ W'.heap.size := Nat.le_trans hwz hk.1
        clear HR hy f1 f2 e1 e2 hR hk
        have f1 : W'.cell? ⟨bn, 0, none⟩ = some (.int .i64 n) := cell_of_row _ _ _ _ _ _ b1
        have f2 : W'.cell? ⟨bb, 0, none⟩ = some (.slice A l.length c) := cell_of_row _ _ _ _ _ _ b2
        have hsub : IntKind.i64.wrap ((l.length : Int) - (n : Int)) = (l.length : Int) - (n : Int) := IntWalk.i64_in _ (by omega)
        by_cases hlt : i + n < l.length
        · have hlt1 : (i : Int) < (l.length : Int) - (n : Int) := by omega
          obtain ⟨t, ht1, ht2, ht3⟩ := winAt_step l n i n1 hlt
          obtain ⟨ad, rfl, _, hcx⟩ := hR' i _ (List.getElem?_eq_getElem (by omega))
          obtain ⟨ad2, e2, _, hcy⟩ := hR' (i + n) _ (List.getElem?_eq_getElem hlt)
          obtain rfl : ad = ad2 := by cases e2; rfl
          have HRo := hide (fun W2 => roll_any t (l[i]'(by omega)) (l[i + n]'hlt) n W2 (by omega) ht3.symm)
          rw [← ht1, ← ht2, ← HS2.out] at HRo
          generalize (l[i]'(by omega)) = x at hcx HRo
          generalize (l[i + n]'hlt) = y at hcy HRo
          have hcx2 : W'.cell? (ad.add i) = some (.int .u8 x.toNat) := hcx
          obtain ⟨m, hm⟩ : ∃ m, m = i + n := ⟨_, rfl⟩
          have hcy2 : W'.cell? (ad.add m) = some (.int .u8 y.toNat) := by rw [hm]; exact hcy
          clear hcx hcy e2 ht1 ht2 ht3
          generalize x.toNat = xn at hcx2 HRo
          generalize y.toNat = yn at hcy2 HRo
          obtain ⟨s2, hs2⟩ : ∃ s2, s2 = weakN (winAt l n (i + 1)) := ⟨_, rfl⟩
          rw [← hs2] at HRo
          have HS3 := hide hs2
          have i0 : (i : Int) + (n : Int) = (m : Int) := by omega
          have i1 : (i : Int) < (l.length : Int) := by omega
          have i2 : (m : Int) < (l.length : Int) := by omega
          have i3 : IntKind.i64.wrap (m : Int) = (m : Int) := IntWalk.i64_in _ (by omega)
          clear hm
          have hHR := hide (And.intro b1 (And.intro b2 hR'))
          have hHJ := hide hJ'
          clear hs2 hR' b1 b2 hJ'
          gi_wp2_with fail
          refine wpIn_wide.2 ?_
          have hd0 : Below W'.heap.size W' W'.drew := ⟨rfl, rfl, rfl, Nat.le_refl _, fun _ _ => rfl⟩
          go_region_held (fun w' => w'.cell? ⟨bn, 0, none⟩ = some (.int .i64 n) ∧ w'.cell? ⟨bb, 0, none⟩ = some (.slice (some ad) l.length c) ∧ w'.cell? (ad.add i) = some (.int .u8 xn) ∧ w'.cell? (ad.add m) = some (.int .u8 yn) ∧ Below W'.heap.size W' w')
            (first
              | assumption
              | exact ⟨f1, f2, hcx2, hcy2, hd0⟩
              | exact keepW (by assumption) hba)
            (first
              | (go_at_call 28; refine (HRo.out _).mono ?_; rintro e wa ⟨rfl, hba⟩))
          all_goals
            rename_i hH
            obtain ⟨b1, b2, hR'⟩ := hHR.out
            have hBz := hH.2.2.2.2
            have r1 := (hBz.block _ (Array.getElem?_eq_some_iff.1 b1).1).trans b1
            have r2 := (hBz.block _ (Array.getElem?_eq_some_iff.1 b2).1).trans b2
            have r3 := hR'.step hBz
            have r4 := HJ.out _ _ _ none hHJ.out (grownBy_below hBz) (fun r e => by cases e)
            have r5 : W.heap.size ≤ wa.heap.size := Nat.le_trans hz' hBz.size
            have HX := hide (And.intro r1 (And.intro r2 (And.intro r3 (And.intro r5 r4))))
            clear hH hba hBz r1 r2 r3 r4 r5 hHR hHJ b1 b2 hR' f1 f2 hcx2 hcy2 hd0 HRo
            gi_wp2_with fail
            go_roundw
            case rel => exact ⟨i + 1, by omega, rfl, hide (by rw [HS3.out]), HX.out.1, HX.out.2.1, HX.out.2.2.1, HX.out.2.2.2.1, HX.out.2.2.2.2⟩
            case measure => simp [intOf]; omega
        · have hlt1 : ¬ (i : Int) < (l.length : Int) - (n : Int) := by omega
          have HF := hide (show (winL l n).take (i + 1) = winL l n by rw [List.take_of_length_le]; rw [winL_len l n n1]; omega)
          have hHJ := hide hJ'
          clear hJ' b1 b2 hR'
          gi_wp2_with fail
          go_end0
          exact ⟨⟨_, rfl⟩, .inl ⟨_, HF.out, hHJ.out⟩⟩
      · have hHJ := hide hJx'
        clear hJx' HR hy f1 f2 e1 e2 hR hk
        gi_wp2_with fail
        go_end0
        exact ⟨⟨_, rfl⟩, .inr ⟨_, List.take_prefix _ _, hHJ.out⟩⟩
end Go.Proofs.Ytklficpogeidlaa
