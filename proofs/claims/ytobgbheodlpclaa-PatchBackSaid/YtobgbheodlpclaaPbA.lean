/-
  Texts that belong together: PtNeeds, PtFits.
-/
import Derived.Test.YtobgbheodlpclaaPtStep
import Derived.Test.YtobgbheodlpclaaAutoTkTo
import Derived.Test.YtobgbheodlpclaaAutoMixRef
import Derived.Deep.RegionHeld3
/-
  patch.Needs.
-/
namespace Go.Proofs.Ytobgbheodlpclaa
open Go.RowKit
set_option maxRecDepth 100000

/-- Are there all blocks? -/
def needsL (n : Nat) (size : Int) (T : List Tk) : Bool := T.all fun t => decide (stepE n size t ≠ 6)
theorem needsL_take (n : Nat) (size : Int) (T : List Tk) (i : Nat) (t : Tk) (h : T[i]? = some t) (h0 : needsL n size (T.take i) = true) (h1 : stepE n size t ≠ 6) : needsL n size (T.take (i + 1)) = true := by
  obtain ⟨hlt, e⟩ := List.getElem?_eq_some_iff.1 h
  rw [← List.take_append_getElem hlt, e]
  unfold needsL at h0 ⊢
  rw [List.all_append, h0]
  simp [h1]
theorem needsL_no (n : Nat) (size : Int) (T : List Tk) (i : Nat) (t : Tk) (h : T[i]? = some t) (h1 : stepE n size t = 6) : needsL n size T = false := by
  unfold needsL
  rw [List.all_eq_false]
  exact ⟨t, List.mem_of_getElem? h, by simp [h1]⟩

set_option maxHeartbeats 8000000 in
theorem needs_any (n : Nat) (size : Int) (C : Option Addr) (T : List Tk) (d : Nat) (w : World) (hn : n ≤ 1000000) (hT : RdT w w.heap.size C T) (hTl : T.length ≤ 1000000) :
    Calls Try.prog 62 #[.int .i64 n, .int .i64 size, .slice C T.length d] w fun e w' => e = .returned (.bool (needsL n size T)) ∧ Below w.heap.size w w' := by
  have HT := hide (fun (W : World) (hb : Below w.heap.size w W) => hT.below hb (Nat.le_refl _))
  have HAll := hide (fun (h : needsL n size (T.take T.length) = true) => (show needsL n size T = true by rwa [List.take_length] at h))
  have HNo := hide (needsL_no n size T)
  have HTk := hide (needsL_take n size T)
  have H0 := hide (show needsL n size (T.take 0) = true from rfl)
  generalize needsL n size T = V at HAll HNo ⊢
  clear hT
  go_enter Try.func62, Try.ntmps62
  go_wp2_with fail
  go_loopg [11] T.length (fun gk iv wr => ∃ (i : Nat), iv = .int .i64 i ∧ i + gk = T.length ∧ Hid (Below w.heap.size w wr) ∧ Hid (needsL n size (T.take i) = true))
  case atStart => exact ⟨0, rfl, by omega, hide (Below.refl _ _), H0⟩
  case round =>
    obtain ⟨i, rfl, hig, HB, HQ⟩ := hrel
    clear H0
    cases gk with
    | zero =>
      obtain rfl : i = T.length := by omega
      have HV := hide (HAll.out HQ.out)
      clear HQ
      go_wp2_with fail
      exact bodyPost_ret (results_tmp rfl _ _ _) rfl ⟨by rw [HV.out]; rfl, HB.out⟩
    | succ g0 =>
      have hii : (i : Int) < T.length := by omega
      have hi0 : (0 : Int) ≤ (i : Int) := by omega
      obtain ⟨t, ht⟩ : ∃ t, T[i]? = some t := ⟨_, List.getElem?_eq_getElem (by omega)⟩
      obtain ⟨ad, rfl, hlt, hnd⟩ := (HT.out _ HB.out) i t ht
      have hiw : IntKind.i64.wrap ((i : Int) + 1) = ((i + 1 : Nat) : Int) := by rw [IntWalk.i64_in _ (by omega)]; rfl
      obtain ⟨c0, c1, c2⟩ := hnd
      have hBA := (Below.refl wr.heap.size wr).alloc (Nat.le_refl _) (.cells t.cells 71)
      have hBw := HB.out.size
      have HBA := hide (HB.out.trans (hBA.mono hBw))
      have hrow := World.alloc_heap_new wr (Obj.cells t.cells 71)
      have HR := hide (right_any t)
      cases hr : rightT t with
      | false =>
        rw [hr] at HR
        have HN := hide (HTk.out i t ht HQ.out (by unfold stepE; rw [hr, if_neg (by decide)]; decide))
        obtain ⟨fr, many, data⟩ := t
        simp only [Tk.cells] at c0 c1 c2 HBA HR hrow
        clear hBA ht hr
        go_wp2_with fail
        refine (HR.out _).mono ?_
        rintro e w3 ⟨rfl, hb3⟩
        have HB3 := hide (HBA.out.trans (hb3.mono HBA.out.size))
        clear hb3 hrow c0 c1 c2
        go_wp2_with fail
        go_roundg g0
        case rel => exact ⟨i + 1, rfl, by omega, HB3, HN⟩
        case measure => omega
      | true =>
        rw [hr] at HR
        obtain ⟨r1, r2, r3, r4, r5⟩ := rightT_facts t hr
        have HH := hide (fun W => has_any n size t W hn r1 r2 r3)
        by_cases hle : t.from_ + t.many ≤ countN n size
        · rw [decide_eq_true hle] at HH
          have HN := hide (HTk.out i t ht HQ.out (by unfold stepE; rw [hr, if_pos rfl, if_pos hle]; decide))
          obtain ⟨fr, many, data⟩ := t
          simp only [Tk.cells] at c0 c1 c2 HBA HR hrow HH
          clear hBA ht hr hle r1 r2 r3 r4 r5
          go_wp2_with fail
          refine (HR.out _).mono ?_
          rintro e w3 ⟨rfl, hb3⟩
          have s3 := (hb3.block wr.heap.size (by simp)).trans hrow
          have k0 : w3.cell? ⟨wr.heap.size, 0, none⟩ = some (.int .i64 fr) := cell_of_row _ _ _ _ _ _ s3
          have k1 : w3.cell? ⟨wr.heap.size, 1, none⟩ = some (.int .i64 many) := cell_of_row _ _ _ _ _ _ s3
          have k2 : w3.cell? ⟨wr.heap.size, 2, none⟩ = some (.string data) := cell_of_row _ _ _ _ _ _ s3
          have HB3 := hide (HBA.out.trans (hb3.mono HBA.out.size))
          clear hb3 hrow c0 c1 c2 s3
          go_wp2_with fail
          refine (HH.out _).mono ?_
          rintro e w4 ⟨rfl, hb4⟩
          have HB4 := hide (HB3.out.trans (hb4.mono HB3.out.size))
          clear hb4 k0 k1 k2
          go_wp2_with fail
          go_roundg g0
          case rel => exact ⟨i + 1, rfl, by omega, HB4, HN⟩
          case measure => omega
        · rw [decide_eq_false hle] at HH
          have HN := hide (HNo.out i t ht (by unfold stepE; rw [hr, if_pos rfl, if_neg hle]))
          obtain ⟨fr, many, data⟩ := t
          simp only [Tk.cells] at c0 c1 c2 HBA HR hrow HH
          clear hBA ht hr hle r1 r2 r3 r4 r5
          go_wp2_with fail
          refine (HR.out _).mono ?_
          rintro e w3 ⟨rfl, hb3⟩
          have s3 := (hb3.block wr.heap.size (by simp)).trans hrow
          have k0 : w3.cell? ⟨wr.heap.size, 0, none⟩ = some (.int .i64 fr) := cell_of_row _ _ _ _ _ _ s3
          have k1 : w3.cell? ⟨wr.heap.size, 1, none⟩ = some (.int .i64 many) := cell_of_row _ _ _ _ _ _ s3
          have k2 : w3.cell? ⟨wr.heap.size, 2, none⟩ = some (.string data) := cell_of_row _ _ _ _ _ _ s3
          have HB3 := hide (HBA.out.trans (hb3.mono HBA.out.size))
          clear hb3 hrow c0 c1 c2 s3
          go_wp2_with fail
          refine (HH.out _).mono ?_
          rintro e w4 ⟨rfl, hb4⟩
          have HB4 := hide (HB3.out.trans (hb4.mono HB3.out.size))
          clear hb4 k0 k1 k2
          go_wp2_with fail
          exact bodyPost_ret (results_tmp rfl _ _ _) rfl ⟨by rw [HN.out]; rfl, HB4.out⟩
end Go.Proofs.Ytobgbheodlpclaa
/-
  patch.Fits.
-/
namespace Go.Proofs.Ytobgbheodlpclaa
open Go.RowKit
set_option maxRecDepth 100000

theorem sums_eql (p q r : Int) (b : Bool) (hb : (q == r) = b) (w : World) : (binOp .eql 28 (.agg #[.int .u64 p, .int .u64 q]) (.agg #[.int .u64 p, .int .u64 r])).run Try.prog w = .ok (.bool b) w := by
  have u3 := Try.underlying26
  have a3' := Try.isAgg26
  have z3 := Try.sizeOf26
  have h : (Op.equalIn 10000 28 (.agg #[.int .u64 p, .int .u64 q]) (.agg #[.int .u64 p, .int .u64 r])).run Try.prog w = .ok b w := by
    rw [show (10000 : Nat) = 9999 + 1 from rfl, Op.equalIn]
    simp only [Sem.run_bind, run_underlying Try.underlying28, Result.andThen_ok]
    cases b
    · have h2 : ¬ q = r := by simpa using hb
      go_simp
    · have h2 : q = r := by simpa using hb
      subst h2
      go_simp
  have h9 : ∀ a b : Value, (Op.equalIn Op.maxDepth 28 a b) = Op.equalIn 10000 28 a b := fun a b => rfl
  simp only [binOp, Op.equal, Sem.run_bind, h9, h, Result.andThen_ok]
  rfl

set_option maxHeartbeats 8000000 in
theorem fits_no (p q : Nat) (n : Int) (A : Option Addr) (l : List UInt8) (c : Nat) (w : World) (hn : (l.length : Int) ≠ n) :
    Calls Try.prog 65 #[.agg #[.int .u64 (p : Nat), .int .u64 (q : Nat)], .int .i64 n, .slice A l.length c] w fun e w' => e = .returned (.bool false) ∧ Below w.heap.size w w' := by
  have hB := (Below.refl w.heap.size w).alloc (Nat.le_refl _) (Obj.cells #[.int .u64 (p : Nat), .int .u64 (q : Nat)] 28)
  have HB := hide hB
  have E0 : ((l.length : Int) == n) = false := by rw [beq_eq_false_iff_ne]; exact hn
  clear hB hn
  go_enter Try.func65, Try.ntmps65
  go_wp2_with fail
  go_quiet (fail)
  go_wp2_with fail
  exact bodyPost_ret (results_tmp rfl _ _ _) rfl ⟨rfl, below_drewN HB.out _⟩

set_option maxHeartbeats 8000000 in
theorem fits_yes (p q : Nat) (A : Option Addr) (l : List UInt8) (c : Nat) (w : World) (b : Bool) (hR : RdB w w.heap.size A l) (hc : l.length ≤ c) (hl : l.length ≤ 1000000) (hp : p = (sumL l).1) (hq : (((sumL l).2 : Int) == (q : Int)) = b) :
    Calls Try.prog 65 #[.agg #[.int .u64 (p : Nat), .int .u64 (q : Nat)], .int .i64 l.length, .slice A l.length c] w fun e w' => e = .returned (.bool b) ∧ Below w.heap.size w w' := by
  have HM := hide (fun (W : World) (h : Below w.heap.size w W) => of_any A l c W (hR.step h) hc hl)
  subst hp
  obtain ⟨o1, ho1⟩ : ∃ o, o = (Obj.cells #[.int .u64 ((sumL l).1 : Nat), .int .u64 (q : Nat)] 28) := ⟨_, rfl⟩
  have hB := (Below.refl w.heap.size w).alloc (Nat.le_refl _) o1
  have hrow := World.alloc_heap_new w o1
  generalize sumL l = s at HM hq hrow ho1 ⊢
  obtain ⟨h1, h2⟩ := s
  simp only [stV] at HM hq ho1 ⊢
  have heq := sums_eql h1 h2 q b hq
  clear hR hc hl hq
  go_enter Try.func65, Try.ntmps65
  go_wp2_with fail
  rw [← ho1]
  have HB := hide hB
  clear hB
  generalize w.alloc o1 = w1 at HB hrow ⊢
  rw [ho1] at hrow
  clear ho1
  have hsz : w.heap.size < w1.heap.size := (Array.getElem?_eq_some_iff.1 hrow).1
  have HS := hide (fun (W : World) (h : Below w1.heap.size w1 W) => (⟨h, cell_of_row _ _ 0 _ _ _ ((h.block _ hsz).trans hrow), cell_of_row _ _ 1 _ _ _ ((h.block _ hsz).trans hrow)⟩ :
    Below w1.heap.size w1 W ∧ W.cell? ⟨w.heap.size, 0, none⟩ = some (.int .u64 (h1 : Nat)) ∧ W.cell? ⟨w.heap.size, 1, none⟩ = some (.int .u64 (q : Nat))))
  have HD := hide (Below.refl w1.heap.size w1).drew
  clear hrow
  go_region_held3 (fun W => Below w1.heap.size w1 W ∧ W.cell? ⟨w.heap.size, 0, none⟩ = some (.int .u64 (h1 : Nat)) ∧ W.cell? ⟨w.heap.size, 1, none⟩ = some (.int .u64 (q : Nat)))
    (first | exact HS.out _ HD.out | exact HS.out _ hbk2)
    (first | (go_at_call 70; with_reducible refine (HM.out _ ((HB.out.trans ((And.left (by assumption) : Below w1.heap.size w1 _).mono HB.out.size)))).mono ?_; rintro en wk ⟨rfl, hbk⟩; have hbk2 := (And.left (by assumption) : Below w1.heap.size w1 _).trans (hbk.mono (And.left (by assumption) : Below w1.heap.size w1 _).size)))
  all_goals
    rename_i hSz
    have HBk := hide (HB.out.trans (hSz.1.mono HB.out.size))
    clear hSz hbk2
    go_wp2_with fail
    exact bodyPost_ret (results_tmp rfl _ _ _) rfl ⟨rfl, HBk.out⟩
end Go.Proofs.Ytobgbheodlpclaa
