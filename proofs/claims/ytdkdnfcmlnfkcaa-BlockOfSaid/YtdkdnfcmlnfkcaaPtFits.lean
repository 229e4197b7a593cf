/-
  patch.Fits.
-/
import Derived.Test.YtdkdnfcmlnfkcaaMixOf
import Derived.Deep.RegionHeld3
namespace Go.Proofs.Ytdkdnfcmlnfkcaa
open Go.RowKit
set_option maxRecDepth 100000

theorem sums_eql (p q r : Int) (b : Bool) (hb : (q == r) = b) (w : World) : (binOp .eql 28 (.agg #[.int .u64 p, .int .u64 q]) (.agg #[.int .u64 p, .int .u64 r])).run Try.prog w = .ok (.bool b) w := by
  have u3 := Try.underlying26
  have a3' := Try.isAgg26
  have z3 := Try.sizeOf26
  have h : (Op.equalIn 10000 28 (.agg #[.int .u64 p, .int .u64 q]) (.agg #[.int .u64 p, .int .u64 r])).run Try.prog w = .ok b w := by
    rw [show (10000 : Nat) = 9999 + 1 from rfl, Op.equalIn]
    simp only [Sem.run_bind, run_underlying Try.underlying28, Result.andThen_ok]
    cases b
    · have h2 : ¬ q = r := by simpa using hb
      go_simp
    · have h2 : q = r := by simpa using hb
      subst h2
      go_simp
  have h9 : ∀ a b : Value, (Op.equalIn Op.maxDepth 28 a b) = Op.equalIn 10000 28 a b := fun a b => rfl
  simp only [binOp, Op.equal, Sem.run_bind, h9, h, Result.andThen_ok]
  rfl

set_option maxHeartbeats 8000000 in
theorem fits_no (p q : Nat) (n : Int) (A : Option Addr) (l : List UInt8) (c : Nat) (w : World) (hn : (l.length : Int) ≠ n) :
    Calls Try.prog 65 #[.agg #[.int .u64 (p : Nat), .int .u64 (q : Nat)], .int .i64 n, .slice A l.length c] w fun e w' => e = .returned (.bool false) ∧ Below w.heap.size w w' := by
  have hB := (Below.refl w.heap.size w).alloc (Nat.le_refl _) (Obj.cells #[.int .u64 (p : Nat), .int .u64 (q : Nat)] 28)
  have HB := hide hB
  have E0 : ((l.length : Int) == n) = false := by rw [beq_eq_false_iff_ne]; exact hn
  clear hB hn
  go_enter Try.func65, Try.ntmps65
  go_wp2_with fail
  go_quiet (fail)
  go_wp2_with fail
  exact bodyPost_ret (results_tmp rfl _ _ _) rfl ⟨rfl, below_drewN HB.out _⟩

set_option maxHeartbeats 8000000 in
theorem fits_yes (p q : Nat) (A : Option Addr) (l : List UInt8) (c : Nat) (w : World) (b : Bool) (hR : RdB w w.heap.size A l) (hc : l.length ≤ c) (hl : l.length ≤ 1000000) (hp : p = (sumL l).1) (hq : (((sumL l).2 : Int) == (q : Int)) = b) :
    Calls Try.prog 65 #[.agg #[.int .u64 (p : Nat), .int .u64 (q : Nat)], .int .i64 l.length, .slice A l.length c] w fun e w' => e = .returned (.bool b) ∧ Below w.heap.size w w' := by
  have HM := hide (fun (W : World) (h : Below w.heap.size w W) => of_any A l c W (hR.step h) hc hl)
  subst hp
  obtain ⟨o1, ho1⟩ : ∃ o, o = (Obj.cells #[.int .u64 ((sumL l).1 : Nat), .int .u64 (q : Nat)] 28) := ⟨_, rfl⟩
  have hB := (Below.refl w.heap.size w).alloc (Nat.le_refl _) o1
  have hrow := World.alloc_heap_new w o1
  generalize sumL l = s at HM hq hrow ho1 ⊢
  obtain ⟨h1, h2⟩ := s
  simp only [stV] at HM hq ho1 ⊢
  have heq := sums_eql h1 h2 q b hq
  clear hR hc hl hq
  go_enter Try.func65, Try.ntmps65
  go_wp2_with fail
  rw [← ho1]
  have HB := hide hB
  clear hB
  generalize w.alloc o1 = w1 at HB hrow ⊢
  rw [ho1] at hrow
  clear ho1
  have hsz : w.heap.size < w1.heap.size := (Array.getElem?_eq_some_iff.1 hrow).1
  have HS := hide (fun (W : World) (h : Below w1.heap.size w1 W) => (⟨h, cell_of_row _ _ 0 _ _ _ ((h.block _ hsz).trans hrow), cell_of_row _ _ 1 _ _ _ ((h.block _ hsz).trans hrow)⟩ :
    Below w1.heap.size w1 W ∧ W.cell? ⟨w.heap.size, 0, none⟩ = some (.int .u64 (h1 : Nat)) ∧ W.cell? ⟨w.heap.size, 1, none⟩ = some (.int .u64 (q : Nat))))
  have HD := hide (Below.refl w1.heap.size w1).drew
  clear hrow
  go_region_held3 (fun W => Below w1.heap.size w1 W ∧ W.cell? ⟨w.heap.size, 0, none⟩ = some (.int .u64 (h1 : Nat)) ∧ W.cell? ⟨w.heap.size, 1, none⟩ = some (.int .u64 (q : Nat)))
    (first | exact HS.out _ HD.out | exact HS.out _ hbk2)
    (first | (go_at_call 70; with_reducible refine (HM.out _ ((HB.out.trans ((And.left (by assumption) : Below w1.heap.size w1 _).mono HB.out.size)))).mono ?_; rintro en wk ⟨rfl, hbk⟩; have hbk2 := (And.left (by assumption) : Below w1.heap.size w1 _).trans (hbk.mono (And.left (by assumption) : Below w1.heap.size w1 _).size)))
  all_goals
    rename_i hSz
    have HBk := hide (HB.out.trans (hSz.1.mono HB.out.size))
    clear hSz hbk2
    go_wp2_with fail
    exact bodyPost_ret (results_tmp rfl _ _ _) rfl ⟨rfl, HBk.out⟩
end Go.Proofs.Ytdkdnfcmlnfkcaa
