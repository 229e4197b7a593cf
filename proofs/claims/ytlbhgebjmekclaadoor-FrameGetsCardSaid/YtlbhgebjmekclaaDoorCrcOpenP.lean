/-
  crc.Open.
-/
import Derived.Test.YtlbhgebjmekclaaDoorCrcOpen
namespace Go.Proofs.YtlbhgebjmekclaaDoor
open Go.RowKit
set_option maxRecDepth 100000

theorem sum_at (A : Option Addr) (l : List UInt8) (c g : Nat) (w : World) (hT : Table w) (hR : RdB w w.heap.size A l) (hl : l.length ≤ 1000000) (hc : w.cell? ⟨g, 0, none⟩ = some (.slice A l.length c)) :
    Calls Tryd.prog 38 #[.slice (some ⟨g, 0, none⟩) 1 1] w fun e w' => e = .returned (.int .u32 (crcL l : Nat)) ∧ w' = w := by
  have h := crcSum_any g 1 [(A, l, c)] _ hT (fun k x hx => by
    rcases k with _ | k
    · simp at hx; subst hx; exact hc
    · simp at hx) (fun x hx => by
    simp at hx
    subst hx
    exact hR) (by simp) (fun x hx => by
    simp at hx
    subst hx
    exact hl)
  rw [show allB [(A, l, c)] = l by simp [allB]] at h
  exact h
theorem slice_from (w : World) (ad : Addr) (n c : Nat) (h : n + 4 ≤ c) :
    (Instr.slice 28 (.slice (some ad) (n + 4) c) (some (.int .i64 n)) none none).run Tryd.prog w = .ok (.slice (some (ad.add n)) 4 (c - n)) w := by
  have hc : ¬ c = n := by omega
  simp [Instr.slice, Instr.sliceBounds, Instr.sliceBound, asIntOf, run_underlying Tryd.underlying28, go_sem, hc]
theorem slice_to (w : World) (ad : Addr) (n c : Nat) (h : n + 4 ≤ c) :
    (Instr.slice 28 (.slice (some ad) (n + 4) c) none (some (.int .i64 n)) none).run Tryd.prog w = .ok (.slice (some ad) n c) w := by
  simp [Instr.slice, Instr.sliceBounds, Instr.sliceBound, asIntOf, run_underlying Tryd.underlying28, go_sem]
  intro h2
  omega
theorem array_at (w : World) (p : Addr) (c : Nat) : (Instr.arrayAt 70 (.slice (some p) 4 c)).run Tryd.prog w = .ok (.pointer (some p)) w := by
  simp [Instr.arrayAt, run_underlying Tryd.underlying70, go_sem]
theorem arr_eq (a0 a1 a2 a3 b0 b1 b2 b3 : Int) (w : World) : (Op.equalIn 10000 70 (.agg #[.int .u8 a0, .int .u8 a1, .int .u8 a2, .int .u8 a3]) (.agg #[.int .u8 b0, .int .u8 b1, .int .u8 b2, .int .u8 b3])).run Tryd.prog w = .ok (a0 == b0 && (a1 == b1 && (a2 == b2 && a3 == b3))) w := by
  have u3 := Tryd.underlying5
  have a3' := Tryd.isAgg5
  have z3 := Tryd.sizeOf5
  rw [show (10000 : Nat) = 9999 + 1 from rfl, Op.equalIn]
  simp only [Sem.run_bind, run_underlying Tryd.underlying70, Result.andThen_ok]
  simp only [Std.Legacy.Range.forIn_eq_forIn_range', Std.Legacy.Range.size, Nat.sub_zero, Nat.add_sub_cancel, Nat.div_one, List.range'_succ, List.range'_zero, List.forIn_cons, List.forIn_nil]
  go_simp
  by_cases h0 : a0 = b0 <;> by_cases h1 : a1 = b1 <;> by_cases h2 : a2 = b2 <;> by_cases h3 : a3 = b3 <;> simp [h0, h1, h2, h3]
theorem drop_cell {w : World} {B : Nat} {ad : Addr} {l : List UInt8} (h : RdB w B (some ad) l) (n j : Nat) (x : UInt8) (hx : l[n + j]? = some x) : w.cell? ⟨(ad.add n).block, (ad.add n).off + j, none⟩ = some (.int .u8 x.toNat) := by
  obtain ⟨ad', e, _, hc⟩ := h (n + j) x hx
  cases e
  have hs : ad.spot = none := by
    cases l with
    | nil => simp at hx
    | cons y r => exact h.spot.1
  obtain ⟨b, o, s⟩ := ad
  simp only at hs
  subst hs
  have e1 : (⟨b, o, none⟩ : Addr).add n = ⟨b, o + n, none⟩ := by unfold Addr.add; split <;> simp_all
  have e2 : (⟨b, o, none⟩ : Addr).add (n + j) = ⟨b, o + n + j, none⟩ := by
    unfold Addr.add
    split
    · rename_i h0
      have : n = 0 ∧ j = 0 := by omega
      rw [this.1, this.2]
      rfl
    · simp [Nat.add_assoc]
  rw [e1]
  rw [e2] at hc
  exact hc

theorem keepO {w w1 w2 : World} {p : Addr} {y0 y1 y2 y3 : Value} (H : Hid (∀ W, Below w.heap.size w W → W.cell? p = some y0 ∧ W.cell? ⟨p.block, p.off + 1, none⟩ = some y1 ∧ W.cell? ⟨p.block, p.off + 2, none⟩ = some y2 ∧ W.cell? ⟨p.block, p.off + 3, none⟩ = some y3))
    (h : Below w.heap.size w w1 ∧ w1.cell? p = some y0 ∧ w1.cell? ⟨p.block, p.off + 1, none⟩ = some y1 ∧ w1.cell? ⟨p.block, p.off + 2, none⟩ = some y2 ∧ w1.cell? ⟨p.block, p.off + 3, none⟩ = some y3) (hb : Below w1.heap.size w1 w2) :
    Below w.heap.size w w2 ∧ w2.cell? p = some y0 ∧ w2.cell? ⟨p.block, p.off + 1, none⟩ = some y1 ∧ w2.cell? ⟨p.block, p.off + 2, none⟩ = some y2 ∧ w2.cell? ⟨p.block, p.off + 3, none⟩ = some y3 := by
  have h2 := h.1.trans (hb.mono h.1.size)
  exact ⟨h2, H.out _ h2⟩
/-- What a call that opens answers. -/
def Opened (w0 : World) (l : List UInt8) (er : Nat) (e : Ending) (w' : World) : Prop :=
  ∃ A c, e = .returned (.tuple #[.slice A l.length c, .int .i64 er]) ∧ Caps A l.length c ∧ RdB w' w'.heap.size A l ∧ Below w0.heap.size w0 w'

theorem byte_eq (a b : UInt8) : ((a.toNat : Int) == (b.toNat : Int)) = decide (a = b) := by
  rw [Bool.eq_iff_iff, beq_iff_eq, decide_eq_true_eq, Int.ofNat_inj]
  exact ⟨fun h => UInt8.toNat_inj.1 h, fun h => by rw [h]⟩
theorem four_ne (y0 y1 y2 y3 s0 s1 s2 s3 : UInt8) : ((!((y0.toNat : Int) == (s0.toNat : Int)) || (!((y1.toNat : Int) == (s1.toNat : Int)) || (!((y2.toNat : Int) == (s2.toNat : Int)) || !((y3.toNat : Int) == (s3.toNat : Int))))) = true) ↔ ¬ [s0, s1, s2, s3] = [y0, y1, y2, y3] := by
  rw [byte_eq, byte_eq, byte_eq, byte_eq, eq_comm (a := [s0, s1, s2, s3])]
  by_cases h0 : y0 = s0 <;> by_cases h1 : y1 = s1 <;> by_cases h2 : y2 = s2 <;> by_cases h3 : y3 = s3 <;> simp [h0, h1, h2, h3]
def pickO (s y f : List UInt8) : List UInt8 × Nat := if s = y then (f, 0) else ([], 12)
set_option maxHeartbeats 4000000 in
theorem open_any (A : Option Addr) (l : List UInt8) (c : Nat) (w : World) (hT : Table w) (hR : RdB w w.heap.size A l) (hc : l.length ≤ c) (hl : l.length ≤ 100000) :
    Calls Tryd.prog 25 #[.slice A l.length c] w (Opened w (openL l).1 (openL l).2) := by
  by_cases h4 : l.length < 4
  · have h4i : (l.length : Int) < 4 := by omega
    have hw : IntKind.i64.wrap ((l.length : Int) - 4) = (l.length : Int) - 4 := IntWalk.i64_in _ (by omega)
    have hw2 : (l.length : Int) - 4 < 0 := by omega
    have HE := hide (show openL l = ([], 4) by unfold openL; rw [if_pos h4])
    rw [HE.out]
    clear h4 hT hR hc HE
    go_enter Tryd.func25, Tryd.ntmps25
    go_wp2_with fail
    exact bodyPost_ret (results_tmp2 rfl _ _ _) rfl ⟨none, 0, rfl, ⟨Nat.le_refl _, fun _ => rfl⟩, RdB.nil _ _ _, Below.refl _ _⟩
  obtain ⟨n, hn⟩ : ∃ n, l.length = n + 4 := ⟨l.length - 4, by omega⟩
  obtain ⟨y0, y1, y2, y3, hd⟩ : ∃ y0 y1 y2 y3, l.drop n = [y0, y1, y2, y3] := by
    have h4l : (l.drop n).length = 4 := by simp; omega
    match l.drop n, h4l with
    | [a, b, c, d], _ => exact ⟨a, b, c, d, rfl⟩
  obtain ⟨f, hf⟩ : ∃ f, f = l.take n := ⟨_, rfl⟩
  have hlf : l = f ++ [y0, y1, y2, y3] := by rw [hf, ← hd, List.take_append_drop]
  have hfn : f.length = n := by rw [hf]; simp; omega
  obtain ⟨s0, s1, s2, s3, hs⟩ : ∃ s0 s1 s2 s3, le4 (crcL f) = [s0, s1, s2, s3] := ⟨_, _, _, _, rfl⟩
  have HO := hide (show openL l = pickO [s0, s1, s2, s3] [y0, y1, y2, y3] f by
    unfold openL pickO
    rw [if_neg h4, show l.length - 4 = n by omega, ← hf]
    unfold sealL
    rw [hs]
    have e : (f ++ [s0, s1, s2, s3] = l) = ([s0, s1, s2, s3] = [y0, y1, y2, y3]) := by rw [hlf, List.append_cancel_left_eq]
    simp only [e])
  obtain ⟨ad, rfl⟩ : ∃ ad, A = some ad := by
    cases A with
    | none => have := hR.of_none; subst this; simp at h4
    | some ad => exact ⟨ad, rfl⟩
  have hRf : ∀ W, Below w.heap.size w W → RdB W W.heap.size (some ad) f := fun W hW => by
    have h1 := (hR.below hW (Nat.le_refl _)).mono hW.size
    exact fun k x hx => h1 k x (by rw [hlf, List.getElem?_append_left (by have := (List.getElem?_eq_some_iff.1 hx).1; omega)]; exact hx)
  have hl4 : ∀ j x, [y0, y1, y2, y3][j]? = some x → l[n + j]? = some x := fun j x hx => by
    rw [hlf, List.getElem?_append_right (by omega), hfn, show n + j - n = j by omega]; exact hx
  have HC := hide (fun (W : World) (hW : Below w.heap.size w W) => (show W.cell? (ad.add n) = some (.int .u8 y0.toNat) ∧ W.cell? ⟨(ad.add n).block, (ad.add n).off + 1, none⟩ = some (.int .u8 y1.toNat) ∧ W.cell? ⟨(ad.add n).block, (ad.add n).off + 2, none⟩ = some (.int .u8 y2.toNat) ∧ W.cell? ⟨(ad.add n).block, (ad.add n).off + 3, none⟩ = some (.int .u8 y3.toNat) from by
    have h1 := hR.below hW (Nat.le_refl _)
    refine ⟨?_, drop_cell h1 n 1 y1 (hl4 1 _ rfl), drop_cell h1 n 2 y2 (hl4 2 _ rfl), drop_cell h1 n 3 y3 (hl4 3 _ rfl)⟩
    obtain ⟨ad', e, _, h⟩ := h1 n y0 (by have := hl4 0 y0 rfl; simpa using this)
    cases e; exact h))
  have hs1 := fun W => slice_from W ad n c (by omega)
  have hs2 := fun W => slice_to W ad n c (by omega)
  have HS := hide (fun (W : World) (g : Nat) (hW : Below w.heap.size w W) (hg : W.cell? ⟨g, 0, none⟩ = some (.slice (some ad) n c)) => (show Calls Tryd.prog 38 #[.slice (some ⟨g, 0, none⟩) 1 1] W fun e w' => e = .returned (.int .u32 (crcL f : Nat)) ∧ w' = W from
    sum_at (some ad) f c g W (hT.below hW hT.pos) (hRf _ hW) (by omega) (by rw [hfn]; exact hg)))
  have HL := hide (fun W => laid_any (crcL f) W (crcL_lt f))
  rw [show rowL (crcL f) 4 = #[.int .u8 s0.toNat, .int .u8 s1.toNat, .int .u8 s2.toNat, .int .u8 s3.toNat] by rw [le4_row, hs]; rfl] at HL
  have HCl := hide (fun (W : World) (hW : Below w.heap.size w W) => (show Calls Tryd.prog 36 #[.slice (some ad) n c] W (Bytes W f) from by
    have h := clone_own (some ad) f c W (hRf W hW) ⟨by omega, fun h => by cases h⟩ (by omega)
    rw [hfn] at h
    exact h.mono fun e w' h => h.bytes))
  have HN := hide hfn
  have hni : (l.length : Int) - 4 = (n : Int) := by omega
  have hbig : (n : Int) ≤ 100000 := by omega
  have hlen : ((l.length : Nat) : Int) = (n : Int) + 4 := by omega
  rw [HO.out]
  rw [hn]
  clear hs hd hf hlf hRf hl4 hR hT h4 hfn HO hn hl
  obtain ⟨V, hV⟩ : ∃ V, V = Value.slice (some ad) (n + 4) c := ⟨_, rfl⟩
  obtain ⟨p, hp⟩ : ∃ p, p = ad.add n := ⟨_, rfl⟩
  rw [← hp] at HC hs1
  have hat := fun W : World => array_at W p (c - n)
  generalize c - n = c4 at hs1 hat
  have HV := hide hV
  rw [← hV] at hs1 hs2 ⊢
  have hlv : ∀ W : World, (Builtin.len_ #[28] 3 #[V]).run Tryd.prog W = Result.ok (.int .i64 ((n : Int) + 4)) W := fun W => by rw [hV]; kernel_rfl
  clear hV hp
  go_enter Tryd.func25, Tryd.ntmps25
  go_wp2_with fail
  have heq := fun W : World => arr_eq y0.toNat y1.toNat y2.toNat y3.toNat s0.toNat s1.toNat s2.toNat s3.toNat W
  have hd0 : Below w.heap.size w w.drew := ⟨rfl, rfl, rfl, Nat.le_refl _, fun _ _ => rfl⟩
  obtain ⟨d0, d1, d2, d3⟩ := HC.out _ hd0
  refine Code.wp_mono (Q := fun e a' W => e = .normal ∧ ∃ b : Bool, a' = { tmps := #[V, undef, .slice none 0 0, .int .i64 0, .int .i64 n, V, .int .i64 ((n : Int) + 4), .int .i64 n, .int .i64 n, .bool (decide ((n : Int) < 0)), V, .int .i64 n, .slice (some p) 4 c4, .pointer (some p), .agg #[.int .u8 y0.toNat, .int .u8 y1.toNat, .int .u8 y2.toNat, .int .u8 y3.toNat], V, .int .i64 n, .slice (some ad) n c, .slice (some ⟨w.heap.size, 0, none⟩) 1 1, .int .u32 (crcL f : Nat), .agg #[.int .u8 s0.toNat, .int .u8 s1.toNat, .int .u8 s2.toNat, .int .u8 s3.toNat], .bool b, undef, undef, undef, undef], defers := [] } ∧ (b = true ↔ ¬ [s0, s1, s2, s3] = [y0, y1, y2, y3]) ∧ Below w.heap.size w W) ?imp ?reg
  case reg =>
    refine wp_region_noPanic ?_
    go_region_held3 (fun w' => Below w.heap.size w w' ∧ w'.cell? p = some (.int .u8 y0.toNat) ∧ w'.cell? ⟨p.block, p.off + 1, none⟩ = some (.int .u8 y1.toNat) ∧ w'.cell? ⟨p.block, p.off + 2, none⟩ = some (.int .u8 y2.toNat) ∧ w'.cell? ⟨p.block, p.off + 3, none⟩ = some (.int .u8 y3.toNat))
      (first
        | assumption
        | exact ⟨hd0, d0, d1, d2, d3⟩
        | exact keepO HC (by assumption) hba
        | exact keepO HC (by assumption) ((Below.refl _ _).alloc (Nat.le_refl _) _))
      (first
        | (go_at_call 38; refine (HS.out _ _ (And.left (by assumption)) (by simp)).mono ?_; rintro e wa ⟨rfl, rfl⟩)
        | (go_at_call 37; refine (HL.out _).mono ?_; rintro e wa ⟨rfl, hba⟩))
    all_goals
      rename_i hH
      refine NoPanic.normal ⟨rfl, _, rfl, ?_, hH.1⟩
      exact four_ne _ _ _ _ _ _ _ _
  case imp =>
    rintro e a' W1 ⟨rfl, b, rfl, hb, hB⟩
    have HV2 := HV.out
    clear hlv heq hd0 d0 d1 d2 d3 hs1 hat HS HL HC
    have HB := hide hb
    clear hb
    cases b with
    | true =>
      have HP := hide (show pickO [s0, s1, s2, s3] [y0, y1, y2, y3] f = ([], 12) by unfold pickO; rw [if_neg (HB.out.1 rfl)])
      clear HV2
      go_wp2_with fail
      refine bodyPost_ret (results_tmp2 rfl _ _ _) rfl ?_
      rw [HP.out]
      exact ⟨none, 0, rfl, ⟨Nat.le_refl _, fun _ => rfl⟩, RdB.nil _ _ _, hB⟩
    | false =>
      have HP := hide (show pickO [s0, s1, s2, s3] [y0, y1, y2, y3] f = (f, 0) by
        unfold pickO
        rw [if_pos]
        have h := HB.out
        simpa using h)
      clear HV2
      go_wp2_with fail
      refine (HCl.out _ hB).mono ?_
      rintro e w2 ⟨A2, c2, rfl, hC2, hR2, hB2⟩
      have hB3 := hB.trans (hB2.mono hB.size)
      clear hB2 hB
      go_wp2_with fail
      refine bodyPost_ret (results_tmp2 rfl _ _ _) rfl ?_
      rw [HP.out]
      exact ⟨A2, c2, rfl, hC2, hR2, hB3⟩
end Go.Proofs.YtlbhgebjmekclaaDoor
