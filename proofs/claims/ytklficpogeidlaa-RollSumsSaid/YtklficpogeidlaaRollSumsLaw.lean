/-
  RollSums's law.
-/
import Derived.Test.YtklficpogeidlaaRollOf
import Derived.Deep.RegionHeld3
namespace Go.Proofs.Ytklficpogeidlaa
open Go.RowKit
set_option maxRecDepth 100000

theorem rofL_app (a b : List UInt8) : ofL (a ++ b) = ofL a ++ ofL b := by
  apply toL_inj
  simp [toL, ofL]
theorem one_byte (W : World) (g : Nat) (x : UInt8) (xn : Nat) (hx : xn = x.toNat) (h : W.cell? ⟨g, 0, none⟩ = some (.int .u8 xn)) : (convert 22 9 (.slice (some ⟨g, 0, none⟩) 1 1)).run Try.prog W = .ok (.string (ofL [x])) W := by
  have hR : RdB W W.heap.size (some ⟨g, 0, none⟩) [x] := fun k y hy => by
    rcases k with _ | k
    · simp at hy
      subst hy
      exact ⟨_, rfl, cell_lt h, by rw [show (⟨g, 0, none⟩ : Addr).add 0 = ⟨g, 0, none⟩ from rfl, h, hx]; rfl⟩
    · simp at hy
  exact conv_any hR 1

theorem rdrop {w : World} {B c : Nat} {ad : Addr} {y : UInt8} {l : List UInt8} (h : RdB w B (some ad) (y :: l)) (hc : (y :: l).length ≤ c) : RdB w B (some (if c = 1 then ad else ad.add 1)) l := fun j x hx => by
  have hlt := (List.getElem?_eq_some_iff.1 hx).1
  obtain ⟨ad', e, hb, hcell⟩ := h (j + 1) x (by simpa using hx)
  cases e
  rw [if_neg (by simp at hc; omega)]
  refine ⟨ad.add 1, rfl, by rw [add_block]; exact hb, ?_⟩
  have e : (ad.add 1).add j = ad.add (j + 1) := by
    unfold Addr.add
    by_cases hj : j = 0
    · subst hj; rfl
    · simp [hj]; omega
  rw [e]; exact hcell
theorem run_tail (w : World) (ad : Addr) (n c : Nat) (h1 : 1 ≤ n) (h2 : n ≤ c) :
    (Instr.slice 22 (.slice (some ad) n c) (some (.int .i64 1)) none none).run Try.prog w = .ok (.slice (some (if c = 1 then ad else ad.add 1)) (n - 1) (c - 1)) w := by
  by_cases hc : c = 1
  · subst hc
    obtain rfl : n = 1 := by omega
    simp [Instr.slice, Instr.sliceBounds, Instr.sliceBound, asIntOf, run_underlying Try.underlying22, go_sem]
  · simp [Instr.slice, Instr.sliceBounds, Instr.sliceBound, asIntOf, run_underlying Try.underlying22, go_sem, hc]
    intros
    omega
theorem index_zero (w : World) (ad : Addr) (n c : Nat) (h : 0 < n) : (Instr.indexAt 22 (.slice (some ad) n c) (.int .i64 0)).run Try.prog w = .ok (.pointer (some ad)) w := by
  simp [Instr.indexAt, run_underlying Try.underlying22, go_sem]
  omega
theorem keepB {w w1 w2 : World} (h : Below w.heap.size w w1) (hb : Below w1.heap.size w1 w2) : Below w.heap.size w w2 := h.trans (hb.mono h.size)
theorem keepR {w w1 w2 : World} {V V2 : Value} {sl sm : ByteArray} (KA : Hid (∀ W, Below w.heap.size w W → (convert 22 9 V).run Try.prog W = .ok (.string sl) W)) (KB : Hid (∀ W, Below w.heap.size w W → (convert 22 9 V2).run Try.prog W = .ok (.string sm) W))
    (h : Below w.heap.size w w1 ∧ (convert 22 9 V).run Try.prog w1 = .ok (.string sl) w1 ∧ (convert 22 9 V2).run Try.prog w1 = .ok (.string sm) w1) (hb : Below w1.heap.size w1 w2) :
    Below w.heap.size w w2 ∧ (convert 22 9 V).run Try.prog w2 = .ok (.string sl) w2 ∧ (convert 22 9 V2).run Try.prog w2 = .ok (.string sm) w2 := by
  have h2 := h.1.trans (hb.mono h.1.size)
  exact ⟨h2, KA.out _ h2, KB.out _ h2⟩
theorem keepC {w w1 w2 : World} {V : Value} {st : ByteArray} {ad : Addr} {y : Value} (KA : Hid (∀ W, Below w.heap.size w W → (convert 22 9 V).run Try.prog W = .ok (.string st) W)) (KC : Hid (∀ W, Below w.heap.size w W → W.cell? ad = some y))
    (h : Below w.heap.size w w1 ∧ (convert 22 9 V).run Try.prog w1 = .ok (.string st) w1 ∧ w1.cell? ad = some y) (hb : Below w1.heap.size w1 w2) :
    Below w.heap.size w w2 ∧ (convert 22 9 V).run Try.prog w2 = .ok (.string st) w2 ∧ w2.cell? ad = some y := by
  have h2 := h.1.trans (hb.mono h.1.size)
  exact ⟨h2, KA.out _ h2, KC.out _ h2⟩
/-- What the law asks of a text with a byte: the tail, with one more. -/
def TailOk (A : Option Addr) (n c p xn : Nat) (sx : ByteArray) (w : World) : Prop :=
  n = 0 ∨ (0 < n ∧ ∃ (ad : Addr) (yn v : Nat) (st : ByteArray), A = some ad ∧ n ≤ c ∧ (∀ W, Below w.heap.size w W → W.cell? ad = some (.int .u8 yn)) ∧
    (∀ W, Below w.heap.size w W → (convert 22 9 (.slice (some (if c = 1 then ad else ad.add 1)) (n - 1) (c - 1))).run Try.prog W = .ok (.string st) W) ∧
    (∀ W, Calls Try.prog 28 #[.int .u32 p, .int .i64 n, .int .u8 yn, .int .u8 xn] W fun e w' => e = .returned (.int .u32 v) ∧ Below W.heap.size W w') ∧
    (∀ W, Calls Try.prog 25 #[.string (st ++ sx)] W fun e w' => e = .returned (.int .u32 v) ∧ w' = W) ∧ ¬ 9223372036854775807 < st.size + sx.size)
theorem tail_ok (A : Option Addr) (l : List UInt8) (c : Nat) (x : UInt8) (w : World) (hA : RdB w w.heap.size A l) (hc : l.length ≤ c) (hl : l.length ≤ 400) : TailOk A l.length c (weakN l) x.toNat (ofL [x]) w := by
  cases l with
  | nil => exact .inl rfl
  | cons y t =>
    obtain ⟨ad, rfl, _, hy⟩ := hA 0 y rfl
    refine .inr ⟨by simp, ad, y.toNat, weakN (t ++ [x]), ofL t, rfl, hc, fun W hW => ?_, fun W hW => ?_, fun W => ?_, fun W => ?_, ?_⟩
    · obtain ⟨ad2, e, _, h⟩ := (hA.below hW (Nat.le_refl _)) 0 y rfl
      cases e; exact h
    · have h := conv_any (rdrop (hA.below hW (Nat.le_refl _)) hc) (c - 1)
      simpa using h
    · exact roll_any t y x _ W (by simp at hl; omega) rfl
    · rw [← rofL_app]; exact refWeak_any _ W (by simp at hl ⊢; omega)
    · rw [rofL_size, rofL_size]; simp at hl ⊢; omega
set_option maxHeartbeats 8000000 in
theorem rollSums_in (A : Option Addr) (l : List UInt8) (c n : Nat) (B : Option Addr) (m : List UInt8) (d k : Nat) (x : UInt8) (xn : Nat) (w : World) (hA : RdB w w.heap.size A l) (hB : RdB w w.heap.size B m) (hc : l.length ≤ c) (hn : l.length = n) (hk : m.length = k) (h1 : n ≤ 400) (h2 : k ≤ 400) (hx : xn = x.toNat) :
    Calls Try.prog 5 #[.slice A n c, .slice B k d, .int .u8 xn] w fun e w' => e = .returned (.bool true) ∧ Below w.heap.size w w' := by
  have KA := hide (fun (W : World) (hW : Below w.heap.size w W) => (show (convert 22 9 (.slice A n c)).run Try.prog W = .ok (.string (ofL l)) W from by rw [← hn]; exact conv_any (hA.below hW (Nat.le_refl _)) c))
  have KB := hide (fun (W : World) (hW : Below w.heap.size w W) => (show (convert 22 9 (.slice B k d)).run Try.prog W = .ok (.string (ofL m)) W from by rw [← hk]; exact conv_any (hB.below hW (Nat.le_refl _)) d))
  have OA := hide (fun (W : World) (hW : Below w.heap.size w W) => (show Calls Try.prog 24 #[.slice A n c] W fun e w' => e = .returned (.int .u32 (weakN l : Nat)) ∧ Below W.heap.size W w' from by rw [← hn]; exact rollOf_any A l c W ((hA.below hW (Nat.le_refl _)).mono hW.size) (by omega)))
  have OB := hide (fun (W : World) (hW : Below w.heap.size w W) => (show Calls Try.prog 24 #[.slice B k d] W fun e w' => e = .returned (.int .u32 (weakN m : Nat)) ∧ Below W.heap.size W w' from by rw [← hk]; exact rollOf_any B m d W ((hB.below hW (Nat.le_refl _)).mono hW.size) (by omega)))
  have G := hide (fun (W : World) => (show Calls Try.prog 26 #[.int .u32 (weakN l : Nat), .int .u8 xn] W fun e w' => e = .returned (.int .u32 (weakN (l ++ [x]) : Nat)) ∧ Below W.heap.size W w' from by rw [hx]; exact grow_any l x W))
  have H := hide (fun (W : World) => (show Calls Try.prog 27 #[.int .u32 (weakN l : Nat), .int .u32 (weakN m : Nat), .int .i64 k] W fun e w' => e = .returned (.int .u32 (weakN (l ++ m) : Nat)) ∧ Below W.heap.size W w' from by rw [← hk]; exact both_any l m W (by omega)))
  have RA := hide (fun (W : World) => refWeak_any l W (by omega))
  have RX := hide (fun (W : World) => refWeak_any (l ++ [x]) W (by simp; omega))
  have RB := hide (fun (W : World) => refWeak_any (l ++ m) W (by simp; omega))
  rw [rofL_app] at RX RB
  have HZ := hide (show TailOk A n c (weakN l) xn (ofL [x]) w by rw [← hn, hx]; exact tail_ok A l c x w hA hc (by omega))
  have b1 : decide ((400 : Int) < n) = false := by rw [decide_eq_false_iff_not]; omega
  have b2 : decide ((400 : Int) < k) = false := by rw [decide_eq_false_iff_not]; omega
  have KX := fun (W : World) (g : Nat) => one_byte W g x xn hx
  have zA : ofL l = ofL l := rfl
  obtain ⟨sl, hsl⟩ : ∃ s, s = ofL l := ⟨_, rfl⟩
  obtain ⟨sm, hsm⟩ : ∃ s, s = ofL m := ⟨_, rfl⟩
  obtain ⟨sx, hsx⟩ : ∃ s, s = ofL [x] := ⟨_, rfl⟩
  have zl : sl.size ≤ 400 := by rw [hsl, rofL_size]; omega
  have zm : sm.size ≤ 400 := by rw [hsm, rofL_size]; omega
  have zx : sx.size = 1 := by rw [hsx, rofL_size]; rfl
  have zlx : ¬ 9223372036854775807 < sl.size + sx.size := by omega
  have zlm : ¬ 9223372036854775807 < sl.size + sm.size := by omega
  rw [← hsl] at KA RA RX RB
  rw [← hsm] at KB RB
  rw [← hsx] at KX RX HZ
  obtain ⟨p, hp⟩ : ∃ p, p = weakN l := ⟨_, rfl⟩
  obtain ⟨q, hq⟩ : ∃ p, p = weakN (l ++ [x]) := ⟨_, rfl⟩
  obtain ⟨r, hr⟩ : ∃ p, p = weakN (l ++ m) := ⟨_, rfl⟩
  obtain ⟨u, hu⟩ : ∃ p, p = weakN m := ⟨_, rfl⟩
  rw [← hp] at OA G H RA HZ
  rw [← hq] at G RX
  rw [← hr] at H RB
  rw [← hu] at OB H
  clear hp hq hr hu hsl hsm hsx zx zl zm zA
  clear hA hB hn hk h1 h2 hx hc
  have hi : (xn : Int) = xn := rfl
  clear hi
  go_enter Try.func5, Try.ntmps5
  go_wp2_with fail
  refine (OA.out _ (Below.refl _ _)).mono ?_
  rintro e w1 ⟨rfl, hB1⟩
  go_wp2_with fail
  have hd0 : Below w.heap.size w w1.drew := ⟨hB1.os, hB1.tape, hB1.output, hB1.size, hB1.block⟩
  obtain ⟨V, hV⟩ : ∃ V, V = Value.slice A n c := ⟨_, rfl⟩
  have HV := hide hV
  rw [← hV] at KA OA ⊢
  clear hV
  have hlen : ∀ W : World, (Builtin.len_ #[22] 3 #[Value.slice B k d]).run Try.prog W = Result.ok (.int .i64 k) W := fun W => by kernel_rfl
  generalize Value.slice B k d = V2 at KB OB hlen ⊢
  refine Code.wp_mono (Q := fun e a' W => e = .normal ∧ ∃ V31, a' = { tmps := #[V, V2, .int .u8 xn, undef, undef, undef, .bool false, .int .u32 p, V, .int .i64 n, .bool false, .bool false, V2, .int .i64 k, .bool false, .bool false, undef, V, .int .u32 p, .int .u32 p, V, .string sl, .int .u32 p, .bool false, .bool false, .int .u32 p, .int .u8 xn, .int .u32 q, V, .string sl, .int .u8 xn, V31, .string sx, .string (sl ++ sx), .int .u32 q, .bool false, .bool false, .bool false, .int .u32 p, V2, .int .u32 u, V2, .int .i64 k, .int .u32 r, V, .string sl, V2, .string sm, .string (sl ++ sm), .int .u32 r, .bool false, .bool false, undef, undef, undef, undef, undef, undef, undef, undef, undef, undef, undef, undef, undef, undef, undef, undef, undef, undef, undef, undef, undef, undef, undef, undef, undef], defers := [] } ∧ Below w.heap.size w W) ?imp ?reg
  case reg =>
    refine wp_region_noPanic ?_
    go_region_held (fun w' => Below w.heap.size w w' ∧ (convert 22 9 V).run Try.prog w' = .ok (.string sl) w' ∧ (convert 22 9 V2).run Try.prog w' = .ok (.string sm) w')
      (first
        | assumption
        | exact ⟨hd0, KA.out _ hd0, KB.out _ hd0⟩
        | exact keepR KA KB (by assumption) hba
        | exact keepR KA KB (by assumption) (box_below _ _ _))
      (first
        | (go_at_call_of 25 (Value.string sl); refine (RA.out _).mono ?_; rintro e wa ⟨rfl, rfl⟩)
        | (go_at_call_of 25 (Value.string (sl ++ sx)); refine (RX.out _).mono ?_; rintro e wa ⟨rfl, rfl⟩)
        | (go_at_call_of 25 (Value.string (sl ++ sm)); refine (RB.out _).mono ?_; rintro e wa ⟨rfl, rfl⟩)
        | (go_at_call 26; refine (G.out _).mono ?_; rintro e wa ⟨rfl, hba⟩; (try have hcx := (hba.cell (by simp)).trans (box_row _ (.int .u8 xn) 5)))
        | (go_at_call 24; refine (OB.out _ (And.left (by assumption))).mono ?_; rintro e wa ⟨rfl, hba⟩)
        | (go_at_call 27; refine (H.out _).mono ?_; rintro e wa ⟨rfl, hba⟩))
    all_goals
      rename_i hH
      refine NoPanic.normal ?_
      exact ⟨rfl, _, rfl, hH.1⟩
  case imp =>
    rintro e a' wa ⟨rfl, V31, rfl, hBx⟩
    have hV := HV.out
    subst hV
    clear hlen HV KA KB OA OB G H RA RX RB hd0 hB1 zlx zlm b1 b2
    go_wp2_with fail
    have hdx : Below w.heap.size w wa.drew := ⟨hBx.os, hBx.tape, hBx.output, hBx.size, hBx.block⟩
    rcases HZ.out with h0 | ⟨h0, ad, yn, v, st, rfl, hc, hcell, hconv, hroll, href, hsz⟩
    · subst h0
      clear HZ KX
      refine wp_region_noPanic ?_
      refine wp_region_any (by kernel_rfl) ?_
      change wpAny _ _ _ _ _ _ _ (World.drew _)
      refine wpAny_ready (rs := [0]) (by kernel_rfl) (by simp) ?_
      refine AllReady.cons rfl (fun K hK => ?_) AllReady.nil
      go_simp
      refine (rollAwake_any _).mono ?_
      rintro e wk ⟨rfl, hbk⟩
      refine hK _ _ ?_
      clear hK K
      refine wpAny_take (i := 1) (v := .bool true) rfl (by kernel_rfl) (by kernel_rfl) (by kernel_rfl) (fun _ _ _ h => h) (Or.inl ⟨by kernel_rfl, fun W => by go_simp⟩) ?_
      try simp only [Act.put, List.getElem_toArray, List.getElem_cons_succ, List.getElem_cons_zero, List.setIfInBounds_toArray, List.set_cons_zero, List.set_cons_succ]
      refine wpAny_take (i := 2) (v := Value.slice A 0 c) rfl (by kernel_rfl) (by kernel_rfl) (by kernel_rfl) (fun _ _ _ h => h) (Or.inl ⟨by kernel_rfl, fun W => by go_simp⟩) ?_
      try simp only [Act.put, List.getElem_toArray, List.getElem_cons_succ, List.getElem_cons_zero, List.setIfInBounds_toArray, List.set_cons_zero, List.set_cons_succ]
      refine wpAny_take (i := 3) (v := .int .i64 0) rfl (by kernel_rfl) (by kernel_rfl) (by kernel_rfl) (fun _ _ _ h => h) (Or.inl ⟨by kernel_rfl, fun W => by go_simp⟩) ?_
      try simp only [Act.put, List.getElem_toArray, List.getElem_cons_succ, List.getElem_cons_zero, List.setIfInBounds_toArray, List.set_cons_zero, List.set_cons_succ]
      refine wpAny_take (i := 4) (v := .bool true) rfl (by kernel_rfl) (by kernel_rfl) (by kernel_rfl) (fun _ _ _ h => h) (Or.inl ⟨by kernel_rfl, fun W => by go_simp⟩) ?_
      try simp only [Act.put, List.getElem_toArray, List.getElem_cons_succ, List.getElem_cons_zero, List.setIfInBounds_toArray, List.set_cons_zero, List.set_cons_succ]
      refine wpAny_take (i := 5) (v := .bool true) rfl (by kernel_rfl) (by kernel_rfl) (by kernel_rfl) (fun _ _ _ h => h) (Or.inl ⟨by kernel_rfl, fun W => by go_simp⟩) ?_
      try simp only [Act.put, List.getElem_toArray, List.getElem_cons_succ, List.getElem_cons_zero, List.setIfInBounds_toArray, List.set_cons_zero, List.set_cons_succ]
      refine wpAny_take (i := 6) (v := undef) rfl (by kernel_rfl) (by kernel_rfl) (by kernel_rfl) (fun _ _ _ h => h) (Or.inr ⟨by kernel_rfl, rfl⟩) ?_
      try simp only [Act.put, List.getElem_toArray, List.getElem_cons_succ, List.getElem_cons_zero, List.setIfInBounds_toArray, List.set_cons_zero, List.set_cons_succ]
      refine wpAny_take (i := 7) (v := undef) rfl (by kernel_rfl) (by kernel_rfl) (by kernel_rfl) (fun _ _ _ h => h) (Or.inr ⟨by kernel_rfl, rfl⟩) ?_
      try simp only [Act.put, List.getElem_toArray, List.getElem_cons_succ, List.getElem_cons_zero, List.setIfInBounds_toArray, List.set_cons_zero, List.set_cons_succ]
      refine wpAny_take (i := 8) (v := undef) rfl (by kernel_rfl) (by kernel_rfl) (by kernel_rfl) (fun _ _ _ h => h) (Or.inr ⟨by kernel_rfl, rfl⟩) ?_
      try simp only [Act.put, List.getElem_toArray, List.getElem_cons_succ, List.getElem_cons_zero, List.setIfInBounds_toArray, List.set_cons_zero, List.set_cons_succ]
      refine wpAny_take (i := 9) (v := undef) rfl (by kernel_rfl) (by kernel_rfl) (by kernel_rfl) (fun _ _ _ h => h) (Or.inr ⟨by kernel_rfl, rfl⟩) ?_
      try simp only [Act.put, List.getElem_toArray, List.getElem_cons_succ, List.getElem_cons_zero, List.setIfInBounds_toArray, List.set_cons_zero, List.set_cons_succ]
      refine wpAny_take (i := 10) (v := undef) rfl (by kernel_rfl) (by kernel_rfl) (by kernel_rfl) (fun _ _ _ h => h) (Or.inr ⟨by kernel_rfl, rfl⟩) ?_
      try simp only [Act.put, List.getElem_toArray, List.getElem_cons_succ, List.getElem_cons_zero, List.setIfInBounds_toArray, List.set_cons_zero, List.set_cons_succ]
      refine wpAny_take (i := 11) (v := undef) rfl (by kernel_rfl) (by kernel_rfl) (by kernel_rfl) (fun _ _ _ h => h) (Or.inr ⟨by kernel_rfl, rfl⟩) ?_
      try simp only [Act.put, List.getElem_toArray, List.getElem_cons_succ, List.getElem_cons_zero, List.setIfInBounds_toArray, List.set_cons_zero, List.set_cons_succ]
      refine wpAny_take (i := 12) (v := undef) rfl (by kernel_rfl) (by kernel_rfl) (by kernel_rfl) (fun _ _ _ h => h) (Or.inr ⟨by kernel_rfl, rfl⟩) ?_
      try simp only [Act.put, List.getElem_toArray, List.getElem_cons_succ, List.getElem_cons_zero, List.setIfInBounds_toArray, List.set_cons_zero, List.set_cons_succ]
      refine wpAny_take (i := 13) (v := undef) rfl (by kernel_rfl) (by kernel_rfl) (by kernel_rfl) (fun _ _ _ h => h) (Or.inr ⟨by kernel_rfl, rfl⟩) ?_
      try simp only [Act.put, List.getElem_toArray, List.getElem_cons_succ, List.getElem_cons_zero, List.setIfInBounds_toArray, List.set_cons_zero, List.set_cons_succ]
      refine wpAny_take (i := 14) (v := undef) rfl (by kernel_rfl) (by kernel_rfl) (by kernel_rfl) (fun _ _ _ h => h) (Or.inr ⟨by kernel_rfl, rfl⟩) ?_
      try simp only [Act.put, List.getElem_toArray, List.getElem_cons_succ, List.getElem_cons_zero, List.setIfInBounds_toArray, List.set_cons_zero, List.set_cons_succ]
      refine wpAny_take (i := 15) (v := undef) rfl (by kernel_rfl) (by kernel_rfl) (by kernel_rfl) (fun _ _ _ h => h) (Or.inr ⟨by kernel_rfl, rfl⟩) ?_
      try simp only [Act.put, List.getElem_toArray, List.getElem_cons_succ, List.getElem_cons_zero, List.setIfInBounds_toArray, List.set_cons_zero, List.set_cons_succ]
      refine wpAny_take (i := 16) (v := undef) rfl (by kernel_rfl) (by kernel_rfl) (by kernel_rfl) (fun _ _ _ h => h) (Or.inr ⟨by kernel_rfl, rfl⟩) ?_
      try simp only [Act.put, List.getElem_toArray, List.getElem_cons_succ, List.getElem_cons_zero, List.setIfInBounds_toArray, List.set_cons_zero, List.set_cons_succ]
      refine wpAny_take (i := 17) (v := undef) rfl (by kernel_rfl) (by kernel_rfl) (by kernel_rfl) (fun _ _ _ h => h) (Or.inr ⟨by kernel_rfl, rfl⟩) ?_
      try simp only [Act.put, List.getElem_toArray, List.getElem_cons_succ, List.getElem_cons_zero, List.setIfInBounds_toArray, List.set_cons_zero, List.set_cons_succ]
      refine wpAny_take (i := 18) (v := undef) rfl (by kernel_rfl) (by kernel_rfl) (by kernel_rfl) (fun _ _ _ h => h) (Or.inr ⟨by kernel_rfl, rfl⟩) ?_
      try simp only [Act.put, List.getElem_toArray, List.getElem_cons_succ, List.getElem_cons_zero, List.setIfInBounds_toArray, List.set_cons_zero, List.set_cons_succ]
      refine wpAny_take (i := 19) (v := undef) rfl (by kernel_rfl) (by kernel_rfl) (by kernel_rfl) (fun _ _ _ h => h) (Or.inr ⟨by kernel_rfl, rfl⟩) ?_
      try simp only [Act.put, List.getElem_toArray, List.getElem_cons_succ, List.getElem_cons_zero, List.setIfInBounds_toArray, List.set_cons_zero, List.set_cons_succ]
      refine wpAny_take (i := 20) (v := undef) rfl (by kernel_rfl) (by kernel_rfl) (by kernel_rfl) (fun _ _ _ h => h) (Or.inr ⟨by kernel_rfl, rfl⟩) ?_
      try simp only [Act.put, List.getElem_toArray, List.getElem_cons_succ, List.getElem_cons_zero, List.setIfInBounds_toArray, List.set_cons_zero, List.set_cons_succ]
      refine wpAny_take (i := 21) (v := undef) rfl (by kernel_rfl) (by kernel_rfl) (by kernel_rfl) (fun _ _ _ h => h) (Or.inr ⟨by kernel_rfl, rfl⟩) ?_
      try simp only [Act.put, List.getElem_toArray, List.getElem_cons_succ, List.getElem_cons_zero, List.setIfInBounds_toArray, List.set_cons_zero, List.set_cons_succ]
      refine wpAny_take (i := 22) (v := undef) rfl (by kernel_rfl) (by kernel_rfl) (by kernel_rfl) (fun _ _ _ h => h) (Or.inr ⟨by kernel_rfl, rfl⟩) ?_
      try simp only [Act.put, List.getElem_toArray, List.getElem_cons_succ, List.getElem_cons_zero, List.setIfInBounds_toArray, List.set_cons_zero, List.set_cons_succ]
      refine wpAny_take (i := 23) (v := .bool true) rfl (by kernel_rfl) (by kernel_rfl) (by kernel_rfl) (fun _ _ _ h => h) (Or.inl ⟨by kernel_rfl, fun W => by go_simp⟩) ?_
      try simp only [Act.put, List.getElem_toArray, List.getElem_cons_succ, List.getElem_cons_zero, List.setIfInBounds_toArray, List.set_cons_zero, List.set_cons_succ]
      refine wpAny_take (i := 24) (v := .bool true) rfl (by kernel_rfl) (by kernel_rfl) (by kernel_rfl) (fun _ _ _ h => h) (Or.inl ⟨by kernel_rfl, fun W => by go_simp⟩) ?_
      try simp only [Act.put, List.getElem_toArray, List.getElem_cons_succ, List.getElem_cons_zero, List.setIfInBounds_toArray, List.set_cons_zero, List.set_cons_succ]
      refine wpAny_take (i := 25) (v := .bool true) rfl (by kernel_rfl) (by kernel_rfl) (by kernel_rfl) (fun _ _ _ h => h) (Or.inl ⟨by kernel_rfl, fun W => by go_simp⟩) ?_
      try simp only [Act.put, List.getElem_toArray, List.getElem_cons_succ, List.getElem_cons_zero, List.setIfInBounds_toArray, List.set_cons_zero, List.set_cons_succ]
      refine wpAny_done (by kernel_rfl) ?_ _
      refine NoPanic.normal ?_
      have hH2 := keepB hdx hbk
      go_wp2_with fail
      exact bodyPost_ret (results_tmp rfl _ _ _) rfl ⟨rfl, hH2⟩
    · have e0 : ((n : Int) == 0) = false := by rw [beq_eq_false_iff_ne]; omega
      have n1 : (0 : Int) < n := by omega
      have n2 : (1 : Int) ≤ n := by omega
      have hT := fun W : World => run_tail W ad n c h0 hc
      have hix := fun W : World => index_zero W ad n c h0
      obtain ⟨V4, hV4⟩ : ∃ V4, V4 = Value.slice (some (if c = 1 then ad else ad.add 1)) (n - 1) (c - 1) := ⟨_, rfl⟩
      rw [← hV4] at hconv hT
      have KC := hide hconv
      have KD := hide hcell
      have HR := hide hroll
      have HF := hide href
      have hc0 := hcell _ hdx
      clear hV4 hconv hcell hroll href HZ
      go_region_held (fun w' => Below w.heap.size w w' ∧ (convert 22 9 V4).run Try.prog w' = .ok (.string st) w' ∧ w'.cell? ad = some (.int .u8 yn))
        (first
          | assumption
          | exact ⟨hdx, KC.out _ hdx, KD.out _ hdx⟩
          | exact keepC KC KD (by assumption) hbk
          | exact keepC KC KD (by assumption) (box_below _ _ _))
        (first
          | (go_at_call 23; refine (rollAwake_any _).mono ?_; rintro e wk ⟨rfl, hbk⟩)
          | (go_at_call 28; refine (HR.out _).mono ?_; rintro e wk ⟨rfl, hbk⟩; (try have hcx := (hbk.cell (by simp)).trans (box_row _ (.int .u8 xn) 5)))
          | (go_at_call 25; refine (HF.out _).mono ?_; rintro e wk ⟨rfl, rfl⟩))
      all_goals
        rename_i hH2
        go_wp2_with fail
        exact bodyPost_ret (results_tmp rfl _ _ _) rfl ⟨rfl, hH2.1⟩

set_option maxHeartbeats 2000000 in
theorem rollSums_law (A : Option Addr) (l : List UInt8) (c : Nat) (B : Option Addr) (m : List UInt8) (d : Nat) (x : UInt8) (w : World) (hA : RdB w w.heap.size A l) (hB : RdB w w.heap.size B m) (hc : l.length ≤ c) :
    Calls Try.prog 5 #[.slice A l.length c, .slice B m.length d, .int .u8 x.toNat] w fun e w' => e = .returned (.bool true) ∧ Below w.heap.size w w' := by
  by_cases h1 : 400 < l.length
  · have h1i : (400 : Int) < l.length := by omega
    clear hA hB hc h1
    go_enter Try.func5, Try.ntmps5
    go_wp2_with fail
    refine (rollAwake_any _).mono ?_
    rintro e w9 ⟨rfl, hB9⟩
    go_wp2_with fail
    exact bodyPost_ret (results_tmp rfl _ _ _) rfl ⟨rfl, hB9⟩
  by_cases h2 : 400 < m.length
  · have h1i : ¬ (400 : Int) < l.length := by omega
    have b1 : decide ((400 : Int) < l.length) = false := by rw [decide_eq_false_iff_not]; omega
    have h2i : (400 : Int) < m.length := by omega
    clear hA hB hc h1 h2
    go_enter Try.func5, Try.ntmps5
    go_wp2_with fail
    refine (rollAwake_any _).mono ?_
    rintro e w9 ⟨rfl, hB9⟩
    go_wp2_with fail
    exact bodyPost_ret (results_tmp rfl _ _ _) rfl ⟨rfl, hB9⟩
  exact rollSums_in A l c _ B m d _ x _ w hA hB hc rfl rfl (by omega) (by omega) rfl
end Go.Proofs.Ytklficpogeidlaa
