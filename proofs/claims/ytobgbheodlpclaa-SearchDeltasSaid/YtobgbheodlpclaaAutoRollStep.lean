/-
  Texts that belong together: RollStep, ConvMark, BkAwake.
-/
import Derived.Test.YtobgbheodlpclaaAutoRollOf
import Derived.Deep.QuietTactic
import Derived.Test.YtobgbheodlpclaaAutoBytes
import Derived.Lib.UnsafeStr
import Derived.Test.YtobgbheodlpclaaBkOf
import Derived.Test.YtobgbheodlpclaaAutoBkPutAll
/-
  A window rolled on: roll.Roll, and the windows of bytes.
-/
namespace Go.Proofs.Ytobgbheodlpclaa
open Go.RowKit
set_option maxRecDepth 100000

theorem wcount_any (n : Nat) (w : World) (hn : n < 9223372036854775808) :
    Calls Try.prog 140 #[.int .i64 n] w fun e w' => e = .returned (.int .u32 ((n % 4294967296 : Nat) : Int)) ∧ w' = w := by
  have hm : (if (n : Int) < 0 then (0 : Int) else (n : Int)) = (n : Int) := by split <;> omega
  have hw : IntKind.u32.wrap (n : Int) = ((n % 4294967296 : Nat) : Int) := by rw [IntKind.wrap_u32]; omega
  generalize ((n % 4294967296 : Nat) : Int) = v at hw ⊢
  go_enter Try.func140, Try.ntmps140
  go_wp2_with fail
  exact bodyPost_ret (results_tmp rfl _ _ _) rfl ⟨by first | rfl | (rw [hm, hw]) | (rw [hw]), rfl⟩

set_option maxHeartbeats 1000000 in
theorem wonRoll_any (s p q : Nat) (c : Array Value) (w : World) (hs : s < 4294967296) (hp : p < 4294967296) (hq : q < 4294967296)
    (h : Calls Try.prog 139 (#[.int .u32 ((s : Int) % 65536), .int .u32 ((s : Int) / 65536)] ++ c) w fun e w' => e = .returned (.tuple #[.int .u32 p, .int .u32 q]) ∧ Below w.heap.size w w') :
    Calls Try.prog 123 #[.int .u32 s, .func (.func 139) #[] c] w fun e w' => e = .returned (.int .u32 (joinN p q : Nat)) ∧ Below w.heap.size w w' := by
  have hsi : (s : Int) < 4294967296 := by omega
  have hpi : (p : Int) < 4294967296 := by omega
  have hqi : (q : Int) < 4294967296 := by omega
  have hj : ((joinN p q : Nat) : Int) = (p : Int) % 65536 + (q : Int) % 65536 * 65536 := by unfold joinN; omega
  obtain ⟨j, hj'⟩ : ∃ j, j = joinN p q := ⟨_, rfl⟩
  rw [← hj'] at hj ⊢
  clear hj'
  have HJ := hide hj
  have HP := hide h
  clear h hj
  go_enter Try.func123, Try.ntmps123
  go_wp2_with fail
  refine HP.out.mono ?_
  rintro e w2 ⟨rfl, hB⟩
  go_wp2_with fail
  exact bodyPost_ret (results_tmp rfl _ _ _) rfl ⟨by rw [HJ.out]; rfl, hB⟩

theorem wtwo_box (w : World) (u v : Value) (t t2 : TypeId) : ((w.alloc (.cells #[u] t)).alloc (.cells #[v] t2)).cell? ⟨w.heap.size, 0, none⟩ = some u ∧ ((w.alloc (.cells #[u] t)).alloc (.cells #[v] t2)).cell? ⟨w.heap.size + 1, 0, none⟩ = some v ∧ Below w.heap.size w ((w.alloc (.cells #[u] t)).alloc (.cells #[v] t2)) := by
  refine ⟨cell_of_row _ _ _ _ _ _ ((Below.heap_alloc _ _ _ (by simp)).trans (World.alloc_heap_new w (Obj.cells #[u] t))), ?_, ((Below.refl _ w).alloc (Nat.le_refl _) _).alloc (by simp) _⟩
  have h := World.alloc_heap_new (w.alloc (.cells #[u] t)) (Obj.cells #[v] t2)
  simp only [World.size_alloc] at h
  exact cell_of_row _ _ _ _ _ _ h

set_option maxHeartbeats 1000000 in
theorem wroll1_any (a b x n c g k : Nat) (w : World) (ha : a < 65536) (hb : b < 65536) (hx : x < 256) (hn : n ≤ 60000) (hcc : c = n * x)
    (h1 : w.cell? ⟨g, 0, none⟩ = some (.int .u8 x)) (h2 : w.cell? ⟨k, 0, none⟩ = some (.int .i64 n)) :
    Calls Try.prog 139 #[.int .u32 a, .int .u32 b, .pointer (some ⟨g, 0, none⟩), .pointer (some ⟨k, 0, none⟩)] w fun e w' => e = .returned (.tuple #[.int .u32 (((a + 4294967296 - x) % 4294967296 : Nat) : Int), .int .u32 (((b + 4294967296 - c) % 4294967296 : Nat) : Int)]) ∧ Below w.heap.size w w' := by
  have i4 : n % 4294967296 = n := by omega
  have i3 : (x : Int) < 256 := by omega
  have hcl : c ≤ 60000 * 255 := by rw [hcc]; exact Nat.mul_le_mul hn (by omega)
  have hm : ((n : Int) * (x : Int)) = (c : Int) := by rw [hcc]; simp
  have E0 : IntKind.u32.wrap (x : Int) = (x : Int) := by rw [IntKind.wrap_u32]; omega
  have E1 : IntKind.u32.wrap ((a : Int) - (x : Int)) = (((a + 4294967296 - x) % 4294967296 : Nat) : Int) := by rw [IntKind.wrap_u32]; omega
  have E2 : IntKind.u32.wrap ((n : Int) * (x : Int)) = (c : Int) := by rw [hm, IntKind.wrap_u32]; omega
  have E3 : IntKind.u32.wrap ((b : Int) - (c : Int)) = (((b + 4294967296 - c) % 4294967296 : Nat) : Int) := by rw [IntKind.wrap_u32]; omega
  generalize (((a + 4294967296 - x) % 4294967296 : Nat) : Int) = p at E1 ⊢
  generalize (((b + 4294967296 - c) % 4294967296 : Nat) : Int) = q at E3 ⊢
  have HC := fun W => wcount_any n W (by omega)
  rw [i4] at HC
  clear hcc hcl i4 hm
  go_enter Try.func139, Try.ntmps139
  go_wp2_with fail
  go_quiet ((go_at_call 140; exact Calls.quiet_of_same (HC _)))
  go_wp2_with fail
  exact bodyPost_ret (results_tmp2 rfl _ _ _) rfl ⟨by rfl, (Below.refl _ w).trans ⟨rfl, rfl, rfl, Nat.le_refl _, fun _ _ => rfl⟩⟩

set_option maxHeartbeats 1000000 in
theorem wroll_any (l : List UInt8) (x y : UInt8) (n : Nat) (w : World) (hl : l.length ≤ 50000) (hn : n = l.length + 1) :
    Calls Try.prog 119 #[.int .u32 (weakN (x :: l) : Nat), .int .i64 n, .int .u8 x.toNat, .int .u8 y.toNat] w fun e w' => e = .returned (.int .u32 (weakN (l ++ [y]) : Nat)) ∧ Below w.heap.size w w' := by
  have hs := weakN_lt (x :: l)
  have hx := x.toNat_lt
  have h1 : weakN (x :: l) % 65536 < 65536 := Nat.mod_lt _ (by decide)
  have h2 : weakN (x :: l) / 65536 < 65536 := by omega
  have hcl : n * x.toNat ≤ 60000 * 255 := Nat.mul_le_mul (by omega) (by omega)
  have HW := hide (weak_rest l x (n * x.toNat) (by rw [hn]) (by omega))
  obtain ⟨c0, c1, hB⟩ := wtwo_box w (.int .i64 n) (.int .u8 x.toNat) 3 5
  have hC := wroll1_any (weakN (x :: l) % 65536) (weakN (x :: l) / 65536) x.toNat n _ (w.heap.size + 1) w.heap.size _ h1 h2 hx (by omega) rfl c1 c0
  have HO := hide (wonRoll_any (weakN (x :: l)) _ _ #[.pointer (some ⟨w.heap.size + 1, 0, none⟩), .pointer (some ⟨w.heap.size, 0, none⟩)] _ hs (Nat.mod_lt _ (by decide)) (Nat.mod_lt _ (by decide)) hC)
  rw [HW.out] at HO
  have HB := hide hB
  have HG := hide (fun W => rgrow_any l y W)
  clear hC HW h1 h2 hcl c0 c1 hB hn
  obtain ⟨j, hj⟩ : ∃ j, j = weakN (l ++ [y]) := ⟨_, rfl⟩
  rw [← hj] at HG ⊢
  clear hj
  generalize weakN (x :: l) = s at HO hs ⊢
  generalize weakN l = r at HO HG ⊢
  generalize y.toNat = yn at HG ⊢
  generalize x.toNat = xn at HO HB ⊢
  go_enter Try.func119, Try.ntmps119
  go_wp2_with fail
  refine HO.out.mono ?_
  rintro e w2 ⟨rfl, hB⟩
  have hB2 := HB.out.trans (hB.mono (by simp; omega))
  clear hB
  go_wp2_with fail
  refine (HG.out _).mono ?_
  rintro e w3 ⟨rfl, hB3⟩
  go_wp2_with fail
  exact bodyPost_ret (results_tmp rfl _ _ _) rfl ⟨rfl, hB2.trans (hB3.mono hB2.size)⟩

/-- The window at a place. -/
def winW (l : List UInt8) (n i : Nat) : List UInt8 := (l.drop i).take n
theorem winW_step (l : List UInt8) (n i : Nat) (h : 1 ≤ n) (hi : i + n < l.length) : ∃ t, winW l n i = l[i]'(by omega) :: t ∧ winW l n (i + 1) = t ++ [l[i + n]'hi] ∧ t.length + 1 = n := by
  refine ⟨(l.drop (i + 1)).take (n - 1), ?_, ?_, by simp; omega⟩
  · unfold winW
    obtain ⟨m, rfl⟩ : ∃ m, n = m + 1 := ⟨n - 1, by omega⟩
    rw [List.drop_eq_getElem_cons (by omega), List.take_succ_cons, Nat.add_sub_cancel]
  · unfold winW
    obtain ⟨m, rfl⟩ : ∃ m, n = m + 1 := ⟨n - 1, by omega⟩
    have e : (l.drop (i + 1)).length = l.length - (i + 1) := by simp
    rw [← List.take_append_getElem (by rw [e]; omega), Nat.add_sub_cancel, List.getElem_drop]
    congr 2
    simp only [show i + 1 + m = i + (m + 1) by omega]
end Go.Proofs.Ytobgbheodlpclaa
/-
  Bytes of a literal, as a slice: the conversion that only marks; rows of bytes that bear a mark.
-/
namespace Go.Proofs.Ytobgbheodlpclaa
open Go.RowKit
set_option maxRecDepth 100000

theorem conv_self (W : World) (b n : Nat) (cs : Array Value) (t : TypeId) (h : W.heap[b]? = some (.cells cs t (0, 0))) :
    ∃ w2, (convert 22 22 (.slice (some ⟨b, 0, none⟩) n n)).run Try.prog W = .ok (.slice (some ⟨b, 0, none⟩) n n) w2 ∧ Below b W w2 ∧ w2.heap[b]? = some (.cells cs t (cs.size, cs.size + 1)) ∧ w2.heap.size = W.heap.size := by
  have hs : W.shape? b = some (t, cs.size) := by unfold World.shape?; rw [h]
  refine ⟨W.freeze ⟨b, cs.size, none⟩ 1, ?_, Lib.below_freeze (B := b) (Below.refl b W) (p := ⟨b, cs.size, none⟩) (Nat.le_refl b) 1, ?_, by simp [World.freeze]⟩
  · simp [convert, run_underlying Try.underlying22, run_underlying Try.underlying5, markStringish, hs]
  · simp [World.freeze, Array.getElem?_modify, h]
theorem row_bytes {W : World} {g : Nat} {l : List UInt8} {t : TypeId} {fz : Nat × Nat} (h : W.heap[g]? = some (.cells (l.map byteV).toArray t fz)) : RdB W W.heap.size (some ⟨g, 0, none⟩) l := fun k x hx => by
  refine ⟨_, rfl, (Array.getElem?_eq_some_iff.1 h).1, ?_⟩
  have e : ((⟨g, 0, none⟩ : Addr).add k) = ⟨g, k, none⟩ := by unfold Addr.add; split <;> simp_all
  rw [e]
  unfold World.cell?
  rw [h]
  simp [hx]
end Go.Proofs.Ytobgbheodlpclaa
/-
  The page's example of layer 15.
-/
namespace Go.Proofs.Ytobgbheodlpclaa
open Go.RowKit
set_option maxRecDepth 100000

theorem sum_two (m : List UInt8) : Two (sumL m) := alongN_two _ _ (alongN_two _ _ ⟨by decide, by decide⟩)
theorem signL_fits (l : List UInt8) : (signL l).fits := ⟨weakN_lt l, (sum_two l).1, (sum_two l).2⟩
def tenB : List UInt8 := [97, 98, 99, 100, 101, 102, 103, 104, 105, 106]
theorem ten_blocks : blocksL tenB 4 = [[97, 98, 99, 100], [101, 102, 103, 104], [105, 106]] := by kernel_rfl
theorem ten_sig : sigF 4 (blocksL tenB 4) = ([signL [97, 98, 99, 100], signL [101, 102, 103, 104]], 2, signL [105, 106]) := by rw [ten_blocks]; rfl
theorem ten_put (a b c : Sg) : 20 < (putS 4 [a, b] 2 c).length := by
  have hr : rightS 4 [a, b].length 2 c = true := by simp [rightS]
  have h1 : ∀ s : Sg, 16 ≤ (signBy s).length := fun s => by
    unfold signBy
    rw [List.length_append, List.length_append, wordL_len, wordL_len]; omega
  have ha := h1 a
  have hb := h1 b
  unfold putS
  rw [if_pos hr]
  simp only [List.length_append, List.flatMap_cons, List.flatMap_nil]
  omega

set_option maxHeartbeats 8000000 in
theorem bkAwake_any (w : World) : Calls Try.prog 15 #[] w fun e w' => e = .returned (.bool true) ∧ Below w.heap.size w w' := by
  obtain ⟨w1, hw1⟩ : ∃ w1, w1 = w.alloc (.cells (tenB.map byteV).toArray 5) := ⟨_, rfl⟩
  have hn1 := World.alloc_heap_new w (Obj.cells (tenB.map byteV).toArray 5)
  have hB1 := (Below.refl _ w).alloc (Nat.le_refl _) (Obj.cells (tenB.map byteV).toArray 5)
  rw [← hw1] at hn1 hB1
  obtain ⟨w2, hcv, hB2, hrow, hz2⟩ := conv_self w1 w.heap.size 10 _ _ hn1
  have HB2 := hide (hB1.trans hB2)
  have hR := row_bytes hrow
  rw [show (tenB.map byteV).toArray = #[.int .u8 97, .int .u8 98, .int .u8 99, .int .u8 100, .int .u8 101, .int .u8 102, .int .u8 103, .int .u8 104, .int .u8 105, .int .u8 106] from rfl] at hw1
  have HOf := hide (bkOf_any (some ⟨w.heap.size, 0, none⟩) tenB 10 4 4 w2 hR ⟨by decide, fun e => by cases e⟩ (by decide) (by decide))
  rw [show (((4 : Nat) : Int)) = 4 from rfl, ten_sig] at HOf
  have f1 := signL_fits [97, 98, 99, 100]
  have f2 := signL_fits [101, 102, 103, 104]
  have f3 := signL_fits [105, 106]
  generalize signL [97, 98, 99, 100] = a at HOf f1
  generalize signL [101, 102, 103, 104] = b at HOf f2
  generalize signL [105, 106] = s at HOf f3
  have hPut := ten_put a b s
  obtain ⟨sw, sh, sl⟩ := s
  simp only [sigC] at HOf
  clear hn1 hB1 hB2 hrow hz2 hR
  go_enter Try.func15, Try.ntmps15
  rw [hw1] at hcv
  clear hw1
  go_wp2_with fail
  refine HOf.out.mono ?_
  rintro e w3 ⟨B, d, rfl, hI⟩
  have HB3 := hide (HB2.out.trans (hI.below.mono HB2.out.size))
  have HRd := hide (RdSg.own hI.own)
  clear hI HOf HB2 hcv
  have hcnt : countN 10 4 = 3 := by decide
  have HCo := hide (fun W => count_any 10 4 W (by decide))
  rw [hcnt] at HCo
  clear hcnt
  have hr4 := World.alloc_heap_new w3 (Obj.cells #[.int .i64 4, .slice B 2 d, .int .i64 2, .int .u32 (sw : Nat), .int .u64 (sh : Nat), .int .u64 (sl : Nat)] 32)
  have hB4 := (Below.refl w3.heap.size w3).alloc (Nat.le_refl _) (Obj.cells #[.int .i64 4, .slice B 2 d, .int .i64 2, .int .u32 (sw : Nat), .int .u64 (sh : Nat), .int .u64 (sl : Nat)] 32)
  have hR4 := HRd.out.step hB4
  have HB4 := hide (HB3.out.trans (hB4.mono HB3.out.size))
  clear hB4 HRd HB3
  go_wp2_with fail
  refine (HCo.out _).mono ?_
  rintro e w4 ⟨rfl, rfl⟩
  generalize w3.alloc (Obj.cells #[.int .i64 4, .slice B 2 d, .int .i64 2, .int .u32 (sw : Nat), .int .u64 (sh : Nat), .int .u64 (sl : Nat)] 32) = w4 at hr4 hR4 HB4 ⊢
  have hlt4 : w3.heap.size < w4.heap.size := (Array.getElem?_eq_some_iff.1 hr4).1
  obtain ⟨w5, hw5⟩ : ∃ w5, w5 = w4.alloc (.cells (tenB.map byteV).toArray 5) := ⟨_, rfl⟩
  have hn5 := World.alloc_heap_new w4 (Obj.cells (tenB.map byteV).toArray 5)
  have hB5 := (Below.refl w4.heap.size w4).alloc (Nat.le_refl _) (Obj.cells (tenB.map byteV).toArray 5)
  rw [← hw5] at hn5 hB5
  obtain ⟨w6, hcv6, hB6, hrow6, hz6⟩ := conv_self w5 w4.heap.size 10 _ _ hn5
  have hB46 := hB5.trans hB6
  have hR6 := row_bytes hrow6
  rw [show (tenB.map byteV).toArray = #[.int .u8 97, .int .u8 98, .int .u8 99, .int .u8 100, .int .u8 101, .int .u8 102, .int .u8 103, .int .u8 104, .int .u8 105, .int .u8 106] from rfl] at hw5
  rw [hw5] at hcv6
  have HAt := hide (at_any (some ⟨w4.heap.size, 0, none⟩) tenB 10 4 2 w6 hR6 ⟨by decide, fun e => by cases e⟩ (by decide))
  rw [show blkL tenB 4 2 = [105, 106] by kernel_rfl] at HAt
  have hr6 := (hB46.block _ hlt4).trans hr4
  have hRs6 := (hR4.below hB46 (Nat.le_refl _)).mono hB46.size
  have HB6 := hide (HB4.out.trans (hB46.mono HB4.out.size))
  have hlt6 : w3.heap.size < w6.heap.size := (Array.getElem?_eq_some_iff.1 hr6).1
  clear hw5 hn5 hB5 hB6 hrow6 hz6 hR6 hr4 hR4 HB4 hB46 HCo
  go_wp2_with fail
  refine HAt.out.mono ?_
  rintro e w7 ⟨D, dd, rfl, hO7, hb7⟩
  have hcv7 : (convert 22 9 (.slice D 2 dd)).run Try.prog w7 = .ok (.string ⟨#[105, 106]⟩) w7 := conv_any (RdB.own hO7) dd
  have hr7 := (hb7.block _ hlt6).trans hr6
  have c0 : w7.cell? ⟨w3.heap.size, 0, none⟩ = some (.int .i64 4) := cell_of_row _ _ _ _ _ _ hr7
  have c1 : w7.cell? ⟨w3.heap.size, 1, none⟩ = some (.slice B 2 d) := cell_of_row _ _ _ _ _ _ hr7
  have c2 : w7.cell? ⟨w3.heap.size, 2, none⟩ = some (.int .i64 2) := cell_of_row _ _ _ _ _ _ hr7
  have c3 : w7.cell? ⟨w3.heap.size, 3, none⟩ = some (.int .u32 (sw : Nat)) := cell_of_row _ _ _ _ _ _ hr7
  have c4 : w7.cell? ⟨w3.heap.size, 4, none⟩ = some (.int .u64 (sh : Nat)) := cell_of_row _ _ _ _ _ _ hr7
  have c5 : w7.cell? ⟨w3.heap.size, 5, none⟩ = some (.int .u64 (sl : Nat)) := cell_of_row _ _ _ _ _ _ hr7
  have HPt := hide (bkPut_any 4 2 B [a, b] d ⟨sw, sh, sl⟩ w7 (hRs6.step hb7) (by simp) (by simp [f1, f2]) f3)
  have HB7 := hide (HB6.out.trans (hb7.mono HB6.out.size))
  generalize putS 4 [a, b] 2 ⟨sw, sh, sl⟩ = P at HPt hPut
  simp only [sigC] at HPt
  have hPi : (20 : Int) < P.length := by omega
  clear hO7 hb7 hr7 hr6 hRs6 hcv6 HAt f1 f2 f3 hlt4 hlt6
  go_wp2_with fail
  refine HPt.out.mono ?_
  rintro e w8 ⟨E, g, rfl, _, _, hb8⟩
  have HB8 := hide (HB7.out.trans (hb8.mono HB7.out.size))
  clear hb8 HPt c0 c1 c2 c3 c4 c5 hcv7
  go_wp2_with fail
  exact bodyPost_ret (results_tmp rfl _ _ _) rfl ⟨rfl, HB8.out⟩
end Go.Proofs.Ytobgbheodlpclaa
