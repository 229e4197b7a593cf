/-
  The law BlockOf: its walk.
-/
import Derived.Test.YtdkdnfcmlnfkcaaBkOfMath
import Derived.Test.YtdkdnfcmlnfkcaaBkFrom
import Derived.Test.YtdkdnfcmlnfkcaaBkRefSame
import Derived.Test.YtdkdnfcmlnfkcaaPtFits
import Derived.Deep.RegionHeld3
namespace Go.Proofs.Ytdkdnfcmlnfkcaa
open Go.RowKit
set_option maxRecDepth 100000

theorem ofL_len2 (a : List UInt8) : (ofL a).size = a.length := by
  show a.toArray.size = _
  simp
theorem sameSig_self (z tl : Int) (a : List Sg) (s : Sg) : sameSig z z tl tl a a s s = true := (sameSig_iff z z tl tl a a s s).2 ⟨rfl, rfl, rfl, rfl⟩
/-- The block that is asked for, as a text. -/
def wantL (l : List UInt8) (size k : Int) : List UInt8 := if 0 ≤ k ∧ k < (blocksL l size).length then blkL l size k else []
theorem wantL_blk (l : List UInt8) (size k : Int) : blkL l size k = wantL l size k := by
  have hnn := countN_nn l.length size
  have hl := blocksL_len l size
  unfold wantL
  split
  · rfl
  · unfold blkL
    rw [if_pos (by omega)]

set_option maxHeartbeats 32000000 in
theorem of_law (A : Option Addr) (l : List UInt8) (c : Nat) (size k : Int) (w : World) (hR : RdB w w.heap.size A l) (hc : Caps A l.length c) (_ : -9223372036854775808 ≤ size ∧ size ≤ 9223372036854775807) (hk : -9223372036854775808 ≤ k ∧ k ≤ 9223372036854775807) :
    Calls Try.prog 3 #[.slice A l.length c, .int .i64 size, .int .i64 k] w fun e w' => e = .returned (.bool true) ∧ Below w.heap.size w w' := by
  by_cases h400 : (400 : Int) < l.length
  · clear hR hc
    go_enter Try.func3, Try.ntmps3
    go_wp2_with fail
    refine (bkAwake_any w).mono ?_
    rintro e w2 ⟨rfl, hb⟩
    go_wp2_with fail
    exact bodyPost_ret (results_tmp rfl _ _ _) rfl ⟨rfl, hb⟩
  have hl : l.length ≤ 400 := by omega
  have hf := fitN_in size
  obtain ⟨h, hh⟩ : ∃ h : Nat, fitN size = h := ⟨(fitN size).toNat, by omega⟩
  obtain ⟨f1, f2, f3, f4⟩ := sig_facts l size h hh (by omega)
  have HOf := hide (bkOf_any A l c size h w hR hc (by omega) hh)
  rw [blocksL_fit l size h hh] at HOf
  have HRO := hide (fun W => (show Calls Try.prog 22 #[.string (ofL l), .int .i64 size] W fun e w' => ∃ B d, e = .returned (.agg (sigC h B (sigF h (blocksL l size)).1.length d (sigF h (blocksL l size)).2.1 (sigF h (blocksL l size)).2.2)) ∧ SI W 37 (.slice B (sigF h (blocksL l size)).1.length d) (sigF h (blocksL l size)).1 w' from by
    have q := refBkOf_any (ofL l) size h W (by rw [ofL_len2]; omega) hh
    rw [toL_ofL] at q
    exact q))
  have HBl := hide (fun W => (show Calls Try.prog 17 #[.string (ofL l), .int .i64 size] W fun e w' => ∃ v, e = .returned v ∧ XI W v (blocksL l size) w' from by
    have q := refBlocks_any (ofL l) size W (by rw [ofL_len2]; omega)
    rw [toL_ofL] at q
    exact q))
  have hBlen := blocksL_len l size
  have hcnn := countN_nn l.length size
  have hcle := countN_le l.length size
  have HCo := hide (fun W => count_any l.length size W (by omega))
  have hcN : countN l.length size = ((blocksL l size).length : Nat) := by omega
  rw [hcN] at HCo
  have hW := wantL_blk l size k
  have hWd : wantL l size k = if 0 ≤ k ∧ k < (blocksL l size).length then blkL l size k else [] := rfl
  have hGet : ∀ j : Nat, j < (blocksL l size).length → (blocksL l size)[j]? = some (blkL l size j) := fun j hj => blocksL_get l size j (by omega)
  have HR := hide (fun (W : World) (q : Below w.heap.size w W) => hR.step q)
  have HC := hide hc
  have HAt := hide (fun (W : World) (q : Below w.heap.size w W) => at_any A l c size k W (hR.step q) hc (by omega))
  rw [hW] at HAt
  have HSg := hide (fun (W : World) (q : Below w.heap.size w W) => signOf_any A l c W (hR.step q) hc.1 (by omega))
  have HRSg := hide (fun (W : World) => refSignOf_any l W (by omega))
  have HCv := hide (fun (W : World) (q : Below w.heap.size w W) => conv_any (hR.step q) c)
  have hBl300 : (blocksL l size).length ≤ 400 := by omega
  obtain ⟨sg0, hsg0⟩ : ∃ x, x = signL l := ⟨_, rfl⟩
  rw [← hsg0] at HSg HRSg
  obtain ⟨aw, ah, al⟩ := sg0
  simp only [Sg.cells] at HSg HRSg
  have heq := sums_eql ah al al true (by simp)
  clear hsg0 hBlen hcnn hcle hcN hW hR hc hf h400
  obtain ⟨st, hst⟩ : ∃ st, st = sigF h (blocksL l size) := ⟨_, rfl⟩
  rw [← hst] at f1 f2 f3 f4 HOf HRO
  obtain ⟨bl, tl, sg⟩ := st
  obtain ⟨tw, th, tlo⟩ := sg
  simp only at f1 f2 f3 f4 HOf HRO
  have HFr := hide (fun (W : World) (B : Option Addr) (d n : Nat) (hn : n = bl.length) (hRd : RdSg W W.heap.size B bl) => (show Calls Try.prog 21 #[.agg #[.int .i64 h, .slice B n d, .int .i64 (tl : Nat), .int .u32 (tw : Nat), .int .u64 (th : Nat), .int .u64 (tlo : Nat)]] W fun e w' => ∃ B' d', e = .returned (.agg #[.int .i64 h, .slice B' n d', .int .i64 (tl : Nat), .int .u32 (tw : Nat), .int .u64 (th : Nat), .int .u64 (tlo : Nat)]) ∧ Below W.heap.size W w' ∧ RdSg w' w'.heap.size B' bl from by
    subst hn
    refine (bkFrom_any h (tl : Nat) B bl d ⟨tw, th, tlo⟩ W hRd (by omega)).mono ?_
    rintro e w' ⟨B', d', q1, q2⟩
    exact ⟨B', d', q1, q2.below, RdSg.own q2.own⟩))
  have HSm := hide (fun (W : World) (B : Option Addr) (d : Nat) (B' : Option Addr) (d' n : Nat) (hn : n = bl.length) (hRd : RdSg W W.heap.size B bl) (hRd' : RdSg W W.heap.size B' bl) => (show Calls Try.prog 20 #[.agg #[.int .i64 h, .slice B n d, .int .i64 (tl : Nat), .int .u32 (tw : Nat), .int .u64 (th : Nat), .int .u64 (tlo : Nat)], .agg #[.int .i64 h, .slice B' n d', .int .i64 (tl : Nat), .int .u32 (tw : Nat), .int .u64 (th : Nat), .int .u64 (tlo : Nat)]] W fun e w' => e = .returned (.bool true) ∧ Below W.heap.size W w' from by
    subst hn
    have q := refSigSame_any h h (tl : Nat) (tl : Nat) B B' bl bl d d' ⟨tw, th, tlo⟩ ⟨tw, th, tlo⟩ W hRd hRd' (by omega)
    rw [sameSig_self] at q
    exact q))
  have HTo := hide (fun (W : World) (B : Option Addr) (d n : Nat) (hn : n = bl.length) => (show Calls Try.prog 25 #[.agg #[.int .i64 h, .slice B n d, .int .i64 (tl : Nat), .int .u32 (tw : Nat), .int .u64 (th : Nat), .int .u64 (tlo : Nat)]] W fun e w' => e = .returned (.int .i64 l.length) ∧ Below W.heap.size W w' from by
    subst hn
    have q := total_any h B bl.length d (tl : Nat) ⟨tw, th, tlo⟩ W
    have hT : totalS h bl.length (tl : Nat) ⟨tw, th, tlo⟩ = l.length := by
      unfold totalS
      rw [if_pos f2]
      have := congrArg (fun x : Nat => (x : Int)) f1
      simp only [Int.natCast_add, Int.natCast_mul] at this
      rw [Int.mul_comm]
      exact this
    rw [hT] at q
    exact q))
  have HRi := hide (fun (W : World) (B : Option Addr) (d n : Nat) (hn : n = bl.length) => (show Calls Try.prog 26 #[.agg #[.int .i64 h, .slice B n d, .int .i64 (tl : Nat), .int .u32 (tw : Nat), .int .u64 (th : Nat), .int .u64 (tlo : Nat)]] W fun e w' => e = .returned (.bool true) ∧ Below W.heap.size W w' from by
    subst hn
    have q := sigRight_any h B bl.length d (tl : Nat) ⟨tw, th, tlo⟩ W
    rw [f2] at q
    exact q))
  have HRO2 := hide (fun (W : World) (n : Nat) (hn : n = bl.length) => (show Calls Try.prog 22 #[.string (ofL l), .int .i64 size] W fun e w' => ∃ B' d', e = .returned (.agg #[.int .i64 h, .slice B' n d', .int .i64 (tl : Nat), .int .u32 (tw : Nat), .int .u64 (th : Nat), .int .u64 (tlo : Nat)]) ∧ Below W.heap.size W w' ∧ RdSg w' w'.heap.size B' bl from by
    subst hn
    refine (HRO.out W).mono ?_
    rintro e w' ⟨B', d', q1, q2⟩
    exact ⟨B', d', q1, q2.below, RdSg.own q2.own⟩))
  obtain ⟨n, hn⟩ : ∃ n, n = bl.length := ⟨_, rfl⟩
  have HOf2 := hide (show Calls Try.prog 16 #[.slice A l.length c, .int .i64 size] w fun e w' => ∃ B' d', e = .returned (.agg #[.int .i64 h, .slice B' n d', .int .i64 (tl : Nat), .int .u32 (tw : Nat), .int .u64 (th : Nat), .int .u64 (tlo : Nat)]) ∧ Below w.heap.size w w' ∧ RdSg w' w'.heap.size B' bl from by
    subst hn
    refine HOf.out.mono ?_
    rintro e w' ⟨B', d', q1, q2⟩
    exact ⟨B', d', q1, q2.below, RdSg.own q2.own⟩)
  have HN := hide hn
  clear f1 f2 f3 f4 hst hn HOf HRO
  obtain ⟨N, hN⟩ : ∃ N, (blocksL l size).length = N := ⟨_, rfl⟩
  rw [hN] at HCo hWd hGet hBl300
  have HBl2 := hide (fun (W : World) => (show Calls Try.prog 17 #[.string (ofL l), .int .i64 size] W fun e w' => ∃ C cc, e = .returned (.slice C N cc) ∧ Below W.heap.size W w' ∧ RdTx w' w'.heap.size C (blocksL l size) from by
    refine (HBl.out W).mono ?_
    rintro e w' ⟨v, q1, q2⟩
    have q3 := q2.own
    rw [hN] at q3
    obtain ⟨C, cc, rfl⟩ := ownsRow_slice q3
    exact ⟨C, cc, q1, q2.below, RdTx.own q3⟩))
  have HGet := hide hGet
  have HWd := hide hWd
  clear hN HBl hGet hWd
  generalize wantL l size k = wl at HAt HWd
  have hAll := hide (fun (W : World) (x : Option Addr) (y : Nat) (hx : RdB W W.heap.size x wl) => (show (convert 22 9 (.slice x wl.length y)).run Try.prog W = .ok (.string (ofL wl)) W from conv_any hx y))
  generalize hslE : ofL l = sl at HCv HRSg HRO2 HBl2
  clear hslE
  go_enter Try.func3, Try.ntmps3
  go_wp2_with fail
  refine HOf2.out.mono ?_
  rintro e w3 ⟨B, d, rfl, hb3, hR3⟩
  obtain ⟨n7, hn7⟩ : ∃ x, x = w3.heap.size := ⟨_, rfl⟩
  have hr7 := World.alloc_heap_new w3 (Obj.cells #[.int .i64 h, .slice B n d, .int .i64 (tl : Nat), .int .u32 (tw : Nat), .int .u64 (th : Nat), .int .u64 (tlo : Nat)] 32)
  have hB7 := (Below.refl w3.heap.size w3).alloc (Nat.le_refl _) (Obj.cells #[.int .i64 h, .slice B n d, .int .i64 (tl : Nat), .int .u32 (tw : Nat), .int .u64 (th : Nat), .int .u64 (tlo : Nat)] 32)
  have hB07 := hb3.trans (hB7.mono hb3.size)
  have hcv7 := HCv.out _ hB07
  have hR7 := hR3.step hB7
  have HB07 := hide hB07
  have HR7 := hide hR7
  have HRow7 := hide hr7
  clear hb3 hR3 hr7 hB7 hB07 hR7 HOf2 hn7 n7
  go_wp2_with fail
  generalize w3.alloc (Obj.cells #[.int .i64 h, .slice B n d, .int .i64 (tl : Nat), .int .u32 (tw : Nat), .int .u64 (th : Nat), .int .u64 (tlo : Nat)] 32) = w4 at HB07 HR7 HRow7 hcv7 ⊢
  refine (HBl2.out _).mono ?_
  rintro e w5 ⟨C, cc, rfl, hb5, hRx⟩
  have HB5 := hide (HB07.out.trans (hb5.mono HB07.out.size))
  have HRow5 := hide ((hb5.block _ (Array.getElem?_eq_some_iff.1 HRow7.out).1).trans HRow7.out)
  have HR5 := hide (HR7.out.step hb5)
  clear hb5 hcv7 HBl2 HB07 HR7 HRow7
  by_cases hin : 0 ≤ k ∧ k < N
  · obtain ⟨j, rfl⟩ : ∃ j : Nat, k = j := ⟨k.toNat, by omega⟩
    have hjN : j < N := by omega
    have hj0 : (0 : Int) ≤ (j : Int) := by omega
    have hjl : (j : Int) < (N : Int) := by omega
    have hwl := HWd.out
    rw [if_pos hin] at hwl
    obtain ⟨ad, rfl, _, hcx⟩ := hRx j _ (HGet.out j hjN)
    rw [← hwl] at hcx
    clear hwl HWd HGet hin hRx
    generalize hws : ofL wl = ws at hAll hcx
    clear hws
    go_wp2_with fail
    refine (HSg.out _ HB5.out).mono ?_
    rintro e w6 ⟨rfl, hb6⟩
    have hrA := World.alloc_heap_new w6 (Obj.cells #[.int .u32 (aw : Nat), .int .u64 (ah : Nat), .int .u64 (al : Nat)] 30)
    have hBA := (Below.refl w6.heap.size w6).alloc (Nat.le_refl _) (Obj.cells #[.int .u32 (aw : Nat), .int .u64 (ah : Nat), .int .u64 (al : Nat)] 30)
    have hB6 := hb6.trans (hBA.mono hb6.size)
    have HB6 := hide (HB5.out.trans (hB6.mono HB5.out.size))
    have HRow6 := hide ((hB6.block _ (Array.getElem?_eq_some_iff.1 HRow5.out).1).trans HRow5.out)
    have HR6 := hide (HR5.out.step hB6)
    have hcv6 := HCv.out _ HB6.out
    have HRowA := hide hrA
    clear hcx
    clear hb6 hrA hBA hB6 HRow5 HR5 HB5
    go_wp2_with fail
    generalize w6.alloc (Obj.cells #[.int .u32 (aw : Nat), .int .u64 (ah : Nat), .int .u64 (al : Nat)] 30) = w7 at HB6 HRow6 HR6 hcv6 HRowA ⊢
    refine (HRSg.out _).mono ?_
    rintro e w8 ⟨rfl, hb8⟩
    have hrC := World.alloc_heap_new w8 (Obj.cells #[.int .u32 (aw : Nat), .int .u64 (ah : Nat), .int .u64 (al : Nat)] 37)
    have hBC := (Below.refl w8.heap.size w8).alloc (Nat.le_refl _) (Obj.cells #[.int .u32 (aw : Nat), .int .u64 (ah : Nat), .int .u64 (al : Nat)] 37)
    have hB8 := hb8.trans (hBC.mono hb8.size)
    have HB8 := hide (HB6.out.trans (hB8.mono HB6.out.size))
    have HRow8 := hide ((hB8.block _ (Array.getElem?_eq_some_iff.1 HRow6.out).1).trans HRow6.out)
    have HRowA8 := hide ((hB8.block _ (Array.getElem?_eq_some_iff.1 HRowA.out).1).trans HRowA.out)
    have HR8 := hide (HR6.out.step hB8)
    have HRowC := hide hrC
    clear hb8 hrC hBC hB8 HRow6 HR6 HRowA HB6 hcv6
    go_wp2_with fail
    generalize w8.alloc (Obj.cells #[.int .u32 (aw : Nat), .int .u64 (ah : Nat), .int .u64 (al : Nat)] 37) = w9 at HB8 HRow8 HRowA8 HR8 HRowC ⊢
    have HV := hide (fun (W : World) (q : Below w9.heap.size w9 W) => HCv.out W (HB8.out.trans (q.mono HB8.out.size)))
    generalize hlm : l.length = m at HV HAt HCo HTo ⊢
    clear hlm
    have hlt7 := (Array.getElem?_eq_some_iff.1 HRow8.out).1
    have hltA := (Array.getElem?_eq_some_iff.1 HRowA8.out).1
    have hltC := (Array.getElem?_eq_some_iff.1 HRowC.out).1
    have HS := hide (fun (W : World) (q : Below w9.heap.size w9 W) => (⟨HV.out W q, cell_of_row _ _ 0 _ _ _ ((q.block _ hlt7).trans HRow8.out), cell_of_row _ _ 1 _ _ _ ((q.block _ hlt7).trans HRow8.out), cell_of_row _ _ 2 _ _ _ ((q.block _ hlt7).trans HRow8.out), cell_of_row _ _ 3 _ _ _ ((q.block _ hlt7).trans HRow8.out), cell_of_row _ _ 4 _ _ _ ((q.block _ hlt7).trans HRow8.out), cell_of_row _ _ 5 _ _ _ ((q.block _ hlt7).trans HRow8.out),
      cell_of_row _ _ 0 _ _ _ ((q.block _ hltA).trans HRowA8.out), cell_of_row _ _ 1 _ _ _ ((q.block _ hltA).trans HRowA8.out), cell_of_row _ _ 2 _ _ _ ((q.block _ hltA).trans HRowA8.out), cell_of_row _ _ 0 _ _ _ ((q.block _ hltC).trans HRowC.out), cell_of_row _ _ 1 _ _ _ ((q.block _ hltC).trans HRowC.out), cell_of_row _ _ 2 _ _ _ ((q.block _ hltC).trans HRowC.out)⟩ : (convert 22 9 (.slice A m c)).run Try.prog W = .ok (.string sl) W ∧ W.cell? ⟨w3.heap.size, 0, none⟩ = some (.int .i64 h) ∧ W.cell? ⟨w3.heap.size, 1, none⟩ = some (.slice B n d) ∧ W.cell? ⟨w3.heap.size, 2, none⟩ = some (.int .i64 (tl : Nat)) ∧ W.cell? ⟨w3.heap.size, 3, none⟩ = some (.int .u32 (tw : Nat)) ∧ W.cell? ⟨w3.heap.size, 4, none⟩ = some (.int .u64 (th : Nat)) ∧ W.cell? ⟨w3.heap.size, 5, none⟩ = some (.int .u64 (tlo : Nat)) ∧ W.cell? ⟨w6.heap.size, 0, none⟩ = some (.int .u32 (aw : Nat)) ∧ W.cell? ⟨w6.heap.size, 1, none⟩ = some (.int .u64 (ah : Nat)) ∧ W.cell? ⟨w6.heap.size, 2, none⟩ = some (.int .u64 (al : Nat)) ∧ W.cell? ⟨w8.heap.size, 0, none⟩ = some (.int .u32 (aw : Nat)) ∧ W.cell? ⟨w8.heap.size, 1, none⟩ = some (.int .u64 (ah : Nat)) ∧ W.cell? ⟨w8.heap.size, 2, none⟩ = some (.int .u64 (al : Nat))))
    have HD := hide (Below.refl w9.heap.size w9).drew
    have hSd := HS.out _ HD.out
    have HSB := hide (fun (W : World) (q : Below w9.heap.size w9 W) => (⟨q, HS.out W q⟩ : Below w9.heap.size w9 W ∧ (convert 22 9 (.slice A m c)).run Try.prog W = .ok (.string sl) W ∧ W.cell? ⟨w3.heap.size, 0, none⟩ = some (.int .i64 h) ∧ W.cell? ⟨w3.heap.size, 1, none⟩ = some (.slice B n d) ∧ W.cell? ⟨w3.heap.size, 2, none⟩ = some (.int .i64 (tl : Nat)) ∧ W.cell? ⟨w3.heap.size, 3, none⟩ = some (.int .u32 (tw : Nat)) ∧ W.cell? ⟨w3.heap.size, 4, none⟩ = some (.int .u64 (th : Nat)) ∧ W.cell? ⟨w3.heap.size, 5, none⟩ = some (.int .u64 (tlo : Nat)) ∧ W.cell? ⟨w6.heap.size, 0, none⟩ = some (.int .u32 (aw : Nat)) ∧ W.cell? ⟨w6.heap.size, 1, none⟩ = some (.int .u64 (ah : Nat)) ∧ W.cell? ⟨w6.heap.size, 2, none⟩ = some (.int .u64 (al : Nat)) ∧ W.cell? ⟨w8.heap.size, 0, none⟩ = some (.int .u32 (aw : Nat)) ∧ W.cell? ⟨w8.heap.size, 1, none⟩ = some (.int .u64 (ah : Nat)) ∧ W.cell? ⟨w8.heap.size, 2, none⟩ = some (.int .u64 (al : Nat))))
    have HTr := hide (fun (W W2 : World) (q1 : Below w9.heap.size w9 W) (q2 : Below W.heap.size W W2) => q1.trans (q2.mono q1.size))
    have HR9 := hide (fun (W : World) (q : Below w9.heap.size w9 W) => HR8.out.step q)
    have HB9 := hide (fun (W : World) (q : Below w9.heap.size w9 W) => HB8.out.trans (q.mono HB8.out.size))
    have HAt2 := hide (fun (W : World) (q : Below w9.heap.size w9 W) => HAt.out W (HB8.out.trans (q.mono HB8.out.size)))
    clear HS HAt HR HC HCv HSg HRSg HV HR8
    go_wp2_with fail
    go_region_held (fun W => Below w9.heap.size w9 W ∧ (convert 22 9 (.slice A m c)).run Try.prog W = .ok (.string sl) W ∧ W.cell? ⟨w3.heap.size, 0, none⟩ = some (.int .i64 h) ∧ W.cell? ⟨w3.heap.size, 1, none⟩ = some (.slice B n d) ∧ W.cell? ⟨w3.heap.size, 2, none⟩ = some (.int .i64 (tl : Nat)) ∧ W.cell? ⟨w3.heap.size, 3, none⟩ = some (.int .u32 (tw : Nat)) ∧ W.cell? ⟨w3.heap.size, 4, none⟩ = some (.int .u64 (th : Nat)) ∧ W.cell? ⟨w3.heap.size, 5, none⟩ = some (.int .u64 (tlo : Nat)) ∧ W.cell? ⟨w6.heap.size, 0, none⟩ = some (.int .u32 (aw : Nat)) ∧ W.cell? ⟨w6.heap.size, 1, none⟩ = some (.int .u64 (ah : Nat)) ∧ W.cell? ⟨w6.heap.size, 2, none⟩ = some (.int .u64 (al : Nat)) ∧ W.cell? ⟨w8.heap.size, 0, none⟩ = some (.int .u32 (aw : Nat)) ∧ W.cell? ⟨w8.heap.size, 1, none⟩ = some (.int .u64 (ah : Nat)) ∧ W.cell? ⟨w8.heap.size, 2, none⟩ = some (.int .u64 (al : Nat)))
      (first
        | exact HSB.out _ hbk2
        | exact ⟨HD.out, hSd⟩)
      (first
        | (go_at_call 15; with_reducible refine (bkAwake_any _).mono ?_; rintro en wk ⟨rfl, hbk⟩; have hbk2 := HTr.out _ _ (And.left (by assumption)) hbk)
        | (go_at_call 21; with_reducible refine (HFr.out _ B d n HN.out (HR9.out _ (And.left (by assumption)))).mono ?_; rintro en wk ⟨B1, d1, rfl, hbk, hRd1⟩; have hbk2 := HTr.out _ _ (And.left (by assumption)) hbk)
        | (go_at_call 22; with_reducible refine (HRO2.out _ n HN.out).mono ?_; rintro en wk ⟨B2, d2, rfl, hbk, hRd2⟩; have hRd3 := hRd1.step hbk; have hbk2 := HTr.out _ _ (And.left (by assumption)) hbk)
        | (go_at_call 20; with_reducible refine (HSm.out _ B1 d1 B2 d2 n HN.out hRd3 hRd2).mono ?_; rintro en wk ⟨rfl, hbk⟩; have hbk2 := HTr.out _ _ (And.left (by assumption)) hbk)
        | (go_at_call 23; with_reducible refine (HCo.out _).mono ?_; rintro en wk ⟨rfl, rfl⟩)
        | (go_at_call 24; refine (HAt2.out _ (And.left (by assumption))).mono ?_; rintro en wk ⟨D, dd, rfl, hO, hbk⟩; have hcvA := hAll.out wk D dd (RdB.own hO); have hbk2 := HTr.out _ _ (And.left (by assumption)) hbk)
        | (go_at_call 25; with_reducible refine (HTo.out _ B d n HN.out).mono ?_; rintro en wk ⟨rfl, hbk⟩; have hbk2 := HTr.out _ _ (And.left (by assumption)) hbk)
        | (go_at_call 26; with_reducible refine (HRi.out _ B d n HN.out).mono ?_; rintro en wk ⟨rfl, hbk⟩; have hbk2 := HTr.out _ _ (And.left (by assumption)) hbk))
    all_goals
      rename_i hSz
      have HF := hide (HB9.out _ hSz.1)
      clear hSz
      go_wp2_with fail
      exact bodyPost_ret (results_tmp rfl _ _ _) rfl ⟨rfl, HF.out⟩
  · have hwl := HWd.out
    rw [if_neg hin] at hwl
    have hws0 : ofL wl = ⟨#[]⟩ := by rw [hwl]; rfl
    rw [hws0] at hAll
    have hws : (0 : Int) ≤ k → decide (k < (N : Int)) = false := fun q => decide_eq_false (fun q2 => hin ⟨q, q2⟩)
    clear hwl HWd HGet hRx hws0
    by_cases hk0 : (0 : Int) ≤ k
    · have hkd := hws hk0
      have hkn : ¬ k < (N : Int) := fun q2 => hin ⟨hk0, q2⟩
      clear hws hin
      go_wp2_with fail
      refine (HSg.out _ HB5.out).mono ?_
      rintro e w6 ⟨rfl, hb6⟩
      have hrA := World.alloc_heap_new w6 (Obj.cells #[.int .u32 (aw : Nat), .int .u64 (ah : Nat), .int .u64 (al : Nat)] 30)
      have hBA := (Below.refl w6.heap.size w6).alloc (Nat.le_refl _) (Obj.cells #[.int .u32 (aw : Nat), .int .u64 (ah : Nat), .int .u64 (al : Nat)] 30)
      have hB6 := hb6.trans (hBA.mono hb6.size)
      have HB6 := hide (HB5.out.trans (hB6.mono HB5.out.size))
      have HRow6 := hide ((hB6.block _ (Array.getElem?_eq_some_iff.1 HRow5.out).1).trans HRow5.out)
      have HR6 := hide (HR5.out.step hB6)
      have hcv6 := HCv.out _ HB6.out
      have HRowA := hide hrA
      clear hb6 hrA hBA hB6 HRow5 HR5 HB5
      go_wp2_with fail
      generalize w6.alloc (Obj.cells #[.int .u32 (aw : Nat), .int .u64 (ah : Nat), .int .u64 (al : Nat)] 30) = w7 at HB6 HRow6 HR6 hcv6 HRowA ⊢
      refine (HRSg.out _).mono ?_
      rintro e w8 ⟨rfl, hb8⟩
      have hrC := World.alloc_heap_new w8 (Obj.cells #[.int .u32 (aw : Nat), .int .u64 (ah : Nat), .int .u64 (al : Nat)] 37)
      have hBC := (Below.refl w8.heap.size w8).alloc (Nat.le_refl _) (Obj.cells #[.int .u32 (aw : Nat), .int .u64 (ah : Nat), .int .u64 (al : Nat)] 37)
      have hB8 := hb8.trans (hBC.mono hb8.size)
      have HB8 := hide (HB6.out.trans (hB8.mono HB6.out.size))
      have HRow8 := hide ((hB8.block _ (Array.getElem?_eq_some_iff.1 HRow6.out).1).trans HRow6.out)
      have HRowA8 := hide ((hB8.block _ (Array.getElem?_eq_some_iff.1 HRowA.out).1).trans HRowA.out)
      have HR8 := hide (HR6.out.step hB8)
      have HRowC := hide hrC
      clear hb8 hrC hBC hB8 HRow6 HR6 HRowA HB6 hcv6
      go_wp2_with fail
      generalize w8.alloc (Obj.cells #[.int .u32 (aw : Nat), .int .u64 (ah : Nat), .int .u64 (al : Nat)] 37) = w9 at HB8 HRow8 HRowA8 HR8 HRowC ⊢
      have HV := hide (fun (W : World) (q : Below w9.heap.size w9 W) => HCv.out W (HB8.out.trans (q.mono HB8.out.size)))
      generalize hlm : l.length = m at HV HAt HCo HTo ⊢
      clear hlm
      have hlt7 := (Array.getElem?_eq_some_iff.1 HRow8.out).1
      have hltA := (Array.getElem?_eq_some_iff.1 HRowA8.out).1
      have hltC := (Array.getElem?_eq_some_iff.1 HRowC.out).1
      have HS := hide (fun (W : World) (q : Below w9.heap.size w9 W) => (⟨HV.out W q, cell_of_row _ _ 0 _ _ _ ((q.block _ hlt7).trans HRow8.out), cell_of_row _ _ 1 _ _ _ ((q.block _ hlt7).trans HRow8.out), cell_of_row _ _ 2 _ _ _ ((q.block _ hlt7).trans HRow8.out), cell_of_row _ _ 3 _ _ _ ((q.block _ hlt7).trans HRow8.out), cell_of_row _ _ 4 _ _ _ ((q.block _ hlt7).trans HRow8.out), cell_of_row _ _ 5 _ _ _ ((q.block _ hlt7).trans HRow8.out),
        cell_of_row _ _ 0 _ _ _ ((q.block _ hltA).trans HRowA8.out), cell_of_row _ _ 1 _ _ _ ((q.block _ hltA).trans HRowA8.out), cell_of_row _ _ 2 _ _ _ ((q.block _ hltA).trans HRowA8.out), cell_of_row _ _ 0 _ _ _ ((q.block _ hltC).trans HRowC.out), cell_of_row _ _ 1 _ _ _ ((q.block _ hltC).trans HRowC.out), cell_of_row _ _ 2 _ _ _ ((q.block _ hltC).trans HRowC.out)⟩ : (convert 22 9 (.slice A m c)).run Try.prog W = .ok (.string sl) W ∧ W.cell? ⟨w3.heap.size, 0, none⟩ = some (.int .i64 h) ∧ W.cell? ⟨w3.heap.size, 1, none⟩ = some (.slice B n d) ∧ W.cell? ⟨w3.heap.size, 2, none⟩ = some (.int .i64 (tl : Nat)) ∧ W.cell? ⟨w3.heap.size, 3, none⟩ = some (.int .u32 (tw : Nat)) ∧ W.cell? ⟨w3.heap.size, 4, none⟩ = some (.int .u64 (th : Nat)) ∧ W.cell? ⟨w3.heap.size, 5, none⟩ = some (.int .u64 (tlo : Nat)) ∧ W.cell? ⟨w6.heap.size, 0, none⟩ = some (.int .u32 (aw : Nat)) ∧ W.cell? ⟨w6.heap.size, 1, none⟩ = some (.int .u64 (ah : Nat)) ∧ W.cell? ⟨w6.heap.size, 2, none⟩ = some (.int .u64 (al : Nat)) ∧ W.cell? ⟨w8.heap.size, 0, none⟩ = some (.int .u32 (aw : Nat)) ∧ W.cell? ⟨w8.heap.size, 1, none⟩ = some (.int .u64 (ah : Nat)) ∧ W.cell? ⟨w8.heap.size, 2, none⟩ = some (.int .u64 (al : Nat))))
      have HD := hide (Below.refl w9.heap.size w9).drew
      have hSd := HS.out _ HD.out
      have HSB := hide (fun (W : World) (q : Below w9.heap.size w9 W) => (⟨q, HS.out W q⟩ : Below w9.heap.size w9 W ∧ (convert 22 9 (.slice A m c)).run Try.prog W = .ok (.string sl) W ∧ W.cell? ⟨w3.heap.size, 0, none⟩ = some (.int .i64 h) ∧ W.cell? ⟨w3.heap.size, 1, none⟩ = some (.slice B n d) ∧ W.cell? ⟨w3.heap.size, 2, none⟩ = some (.int .i64 (tl : Nat)) ∧ W.cell? ⟨w3.heap.size, 3, none⟩ = some (.int .u32 (tw : Nat)) ∧ W.cell? ⟨w3.heap.size, 4, none⟩ = some (.int .u64 (th : Nat)) ∧ W.cell? ⟨w3.heap.size, 5, none⟩ = some (.int .u64 (tlo : Nat)) ∧ W.cell? ⟨w6.heap.size, 0, none⟩ = some (.int .u32 (aw : Nat)) ∧ W.cell? ⟨w6.heap.size, 1, none⟩ = some (.int .u64 (ah : Nat)) ∧ W.cell? ⟨w6.heap.size, 2, none⟩ = some (.int .u64 (al : Nat)) ∧ W.cell? ⟨w8.heap.size, 0, none⟩ = some (.int .u32 (aw : Nat)) ∧ W.cell? ⟨w8.heap.size, 1, none⟩ = some (.int .u64 (ah : Nat)) ∧ W.cell? ⟨w8.heap.size, 2, none⟩ = some (.int .u64 (al : Nat))))
      have HTr := hide (fun (W W2 : World) (q1 : Below w9.heap.size w9 W) (q2 : Below W.heap.size W W2) => q1.trans (q2.mono q1.size))
      have HR9 := hide (fun (W : World) (q : Below w9.heap.size w9 W) => HR8.out.step q)
      have HB9 := hide (fun (W : World) (q : Below w9.heap.size w9 W) => HB8.out.trans (q.mono HB8.out.size))
      have HAt2 := hide (fun (W : World) (q : Below w9.heap.size w9 W) => HAt.out W (HB8.out.trans (q.mono HB8.out.size)))
      clear HS HAt HR HC HCv HSg HRSg HV HR8
      go_wp2_with fail
      go_region_held (fun W => Below w9.heap.size w9 W ∧ (convert 22 9 (.slice A m c)).run Try.prog W = .ok (.string sl) W ∧ W.cell? ⟨w3.heap.size, 0, none⟩ = some (.int .i64 h) ∧ W.cell? ⟨w3.heap.size, 1, none⟩ = some (.slice B n d) ∧ W.cell? ⟨w3.heap.size, 2, none⟩ = some (.int .i64 (tl : Nat)) ∧ W.cell? ⟨w3.heap.size, 3, none⟩ = some (.int .u32 (tw : Nat)) ∧ W.cell? ⟨w3.heap.size, 4, none⟩ = some (.int .u64 (th : Nat)) ∧ W.cell? ⟨w3.heap.size, 5, none⟩ = some (.int .u64 (tlo : Nat)) ∧ W.cell? ⟨w6.heap.size, 0, none⟩ = some (.int .u32 (aw : Nat)) ∧ W.cell? ⟨w6.heap.size, 1, none⟩ = some (.int .u64 (ah : Nat)) ∧ W.cell? ⟨w6.heap.size, 2, none⟩ = some (.int .u64 (al : Nat)) ∧ W.cell? ⟨w8.heap.size, 0, none⟩ = some (.int .u32 (aw : Nat)) ∧ W.cell? ⟨w8.heap.size, 1, none⟩ = some (.int .u64 (ah : Nat)) ∧ W.cell? ⟨w8.heap.size, 2, none⟩ = some (.int .u64 (al : Nat)))
        (first
          | exact HSB.out _ hbk2
          | exact ⟨HD.out, hSd⟩)
        (first
          | (go_at_call 15; with_reducible refine (bkAwake_any _).mono ?_; rintro en wk ⟨rfl, hbk⟩; have hbk2 := HTr.out _ _ (And.left (by assumption)) hbk)
          | (go_at_call 21; with_reducible refine (HFr.out _ B d n HN.out (HR9.out _ (And.left (by assumption)))).mono ?_; rintro en wk ⟨B1, d1, rfl, hbk, hRd1⟩; have hbk2 := HTr.out _ _ (And.left (by assumption)) hbk)
          | (go_at_call 22; with_reducible refine (HRO2.out _ n HN.out).mono ?_; rintro en wk ⟨B2, d2, rfl, hbk, hRd2⟩; have hRd3 := hRd1.step hbk; have hbk2 := HTr.out _ _ (And.left (by assumption)) hbk)
          | (go_at_call 20; with_reducible refine (HSm.out _ B1 d1 B2 d2 n HN.out hRd3 hRd2).mono ?_; rintro en wk ⟨rfl, hbk⟩; have hbk2 := HTr.out _ _ (And.left (by assumption)) hbk)
          | (go_at_call 23; with_reducible refine (HCo.out _).mono ?_; rintro en wk ⟨rfl, rfl⟩)
          | (go_at_call 24; refine (HAt2.out _ (And.left (by assumption))).mono ?_; rintro en wk ⟨D, dd, rfl, hO, hbk⟩; have hcvA := hAll.out wk D dd (RdB.own hO); have hbk2 := HTr.out _ _ (And.left (by assumption)) hbk)
          | (go_at_call 25; with_reducible refine (HTo.out _ B d n HN.out).mono ?_; rintro en wk ⟨rfl, hbk⟩; have hbk2 := HTr.out _ _ (And.left (by assumption)) hbk)
          | (go_at_call 26; with_reducible refine (HRi.out _ B d n HN.out).mono ?_; rintro en wk ⟨rfl, hbk⟩; have hbk2 := HTr.out _ _ (And.left (by assumption)) hbk))
      all_goals
        rename_i hSz
        have HF := hide (HB9.out _ hSz.1)
        clear hSz
        go_wp2_with fail
        exact bodyPost_ret (results_tmp rfl _ _ _) rfl ⟨rfl, HF.out⟩
    · clear hws hin
      go_wp2_with fail
      refine (HSg.out _ HB5.out).mono ?_
      rintro e w6 ⟨rfl, hb6⟩
      have hrA := World.alloc_heap_new w6 (Obj.cells #[.int .u32 (aw : Nat), .int .u64 (ah : Nat), .int .u64 (al : Nat)] 30)
      have hBA := (Below.refl w6.heap.size w6).alloc (Nat.le_refl _) (Obj.cells #[.int .u32 (aw : Nat), .int .u64 (ah : Nat), .int .u64 (al : Nat)] 30)
      have hB6 := hb6.trans (hBA.mono hb6.size)
      have HB6 := hide (HB5.out.trans (hB6.mono HB5.out.size))
      have HRow6 := hide ((hB6.block _ (Array.getElem?_eq_some_iff.1 HRow5.out).1).trans HRow5.out)
      have HR6 := hide (HR5.out.step hB6)
      have hcv6 := HCv.out _ HB6.out
      have HRowA := hide hrA
      clear hb6 hrA hBA hB6 HRow5 HR5 HB5
      go_wp2_with fail
      generalize w6.alloc (Obj.cells #[.int .u32 (aw : Nat), .int .u64 (ah : Nat), .int .u64 (al : Nat)] 30) = w7 at HB6 HRow6 HR6 hcv6 HRowA ⊢
      refine (HRSg.out _).mono ?_
      rintro e w8 ⟨rfl, hb8⟩
      have hrC := World.alloc_heap_new w8 (Obj.cells #[.int .u32 (aw : Nat), .int .u64 (ah : Nat), .int .u64 (al : Nat)] 37)
      have hBC := (Below.refl w8.heap.size w8).alloc (Nat.le_refl _) (Obj.cells #[.int .u32 (aw : Nat), .int .u64 (ah : Nat), .int .u64 (al : Nat)] 37)
      have hB8 := hb8.trans (hBC.mono hb8.size)
      have HB8 := hide (HB6.out.trans (hB8.mono HB6.out.size))
      have HRow8 := hide ((hB8.block _ (Array.getElem?_eq_some_iff.1 HRow6.out).1).trans HRow6.out)
      have HRowA8 := hide ((hB8.block _ (Array.getElem?_eq_some_iff.1 HRowA.out).1).trans HRowA.out)
      have HR8 := hide (HR6.out.step hB8)
      have HRowC := hide hrC
      clear hb8 hrC hBC hB8 HRow6 HR6 HRowA HB6 hcv6
      go_wp2_with fail
      generalize w8.alloc (Obj.cells #[.int .u32 (aw : Nat), .int .u64 (ah : Nat), .int .u64 (al : Nat)] 37) = w9 at HB8 HRow8 HRowA8 HR8 HRowC ⊢
      have HV := hide (fun (W : World) (q : Below w9.heap.size w9 W) => HCv.out W (HB8.out.trans (q.mono HB8.out.size)))
      generalize hlm : l.length = m at HV HAt HCo HTo ⊢
      clear hlm
      have hlt7 := (Array.getElem?_eq_some_iff.1 HRow8.out).1
      have hltA := (Array.getElem?_eq_some_iff.1 HRowA8.out).1
      have hltC := (Array.getElem?_eq_some_iff.1 HRowC.out).1
      have HS := hide (fun (W : World) (q : Below w9.heap.size w9 W) => (⟨HV.out W q, cell_of_row _ _ 0 _ _ _ ((q.block _ hlt7).trans HRow8.out), cell_of_row _ _ 1 _ _ _ ((q.block _ hlt7).trans HRow8.out), cell_of_row _ _ 2 _ _ _ ((q.block _ hlt7).trans HRow8.out), cell_of_row _ _ 3 _ _ _ ((q.block _ hlt7).trans HRow8.out), cell_of_row _ _ 4 _ _ _ ((q.block _ hlt7).trans HRow8.out), cell_of_row _ _ 5 _ _ _ ((q.block _ hlt7).trans HRow8.out),
        cell_of_row _ _ 0 _ _ _ ((q.block _ hltA).trans HRowA8.out), cell_of_row _ _ 1 _ _ _ ((q.block _ hltA).trans HRowA8.out), cell_of_row _ _ 2 _ _ _ ((q.block _ hltA).trans HRowA8.out), cell_of_row _ _ 0 _ _ _ ((q.block _ hltC).trans HRowC.out), cell_of_row _ _ 1 _ _ _ ((q.block _ hltC).trans HRowC.out), cell_of_row _ _ 2 _ _ _ ((q.block _ hltC).trans HRowC.out)⟩ : (convert 22 9 (.slice A m c)).run Try.prog W = .ok (.string sl) W ∧ W.cell? ⟨w3.heap.size, 0, none⟩ = some (.int .i64 h) ∧ W.cell? ⟨w3.heap.size, 1, none⟩ = some (.slice B n d) ∧ W.cell? ⟨w3.heap.size, 2, none⟩ = some (.int .i64 (tl : Nat)) ∧ W.cell? ⟨w3.heap.size, 3, none⟩ = some (.int .u32 (tw : Nat)) ∧ W.cell? ⟨w3.heap.size, 4, none⟩ = some (.int .u64 (th : Nat)) ∧ W.cell? ⟨w3.heap.size, 5, none⟩ = some (.int .u64 (tlo : Nat)) ∧ W.cell? ⟨w6.heap.size, 0, none⟩ = some (.int .u32 (aw : Nat)) ∧ W.cell? ⟨w6.heap.size, 1, none⟩ = some (.int .u64 (ah : Nat)) ∧ W.cell? ⟨w6.heap.size, 2, none⟩ = some (.int .u64 (al : Nat)) ∧ W.cell? ⟨w8.heap.size, 0, none⟩ = some (.int .u32 (aw : Nat)) ∧ W.cell? ⟨w8.heap.size, 1, none⟩ = some (.int .u64 (ah : Nat)) ∧ W.cell? ⟨w8.heap.size, 2, none⟩ = some (.int .u64 (al : Nat))))
      have HD := hide (Below.refl w9.heap.size w9).drew
      have hSd := HS.out _ HD.out
      have HSB := hide (fun (W : World) (q : Below w9.heap.size w9 W) => (⟨q, HS.out W q⟩ : Below w9.heap.size w9 W ∧ (convert 22 9 (.slice A m c)).run Try.prog W = .ok (.string sl) W ∧ W.cell? ⟨w3.heap.size, 0, none⟩ = some (.int .i64 h) ∧ W.cell? ⟨w3.heap.size, 1, none⟩ = some (.slice B n d) ∧ W.cell? ⟨w3.heap.size, 2, none⟩ = some (.int .i64 (tl : Nat)) ∧ W.cell? ⟨w3.heap.size, 3, none⟩ = some (.int .u32 (tw : Nat)) ∧ W.cell? ⟨w3.heap.size, 4, none⟩ = some (.int .u64 (th : Nat)) ∧ W.cell? ⟨w3.heap.size, 5, none⟩ = some (.int .u64 (tlo : Nat)) ∧ W.cell? ⟨w6.heap.size, 0, none⟩ = some (.int .u32 (aw : Nat)) ∧ W.cell? ⟨w6.heap.size, 1, none⟩ = some (.int .u64 (ah : Nat)) ∧ W.cell? ⟨w6.heap.size, 2, none⟩ = some (.int .u64 (al : Nat)) ∧ W.cell? ⟨w8.heap.size, 0, none⟩ = some (.int .u32 (aw : Nat)) ∧ W.cell? ⟨w8.heap.size, 1, none⟩ = some (.int .u64 (ah : Nat)) ∧ W.cell? ⟨w8.heap.size, 2, none⟩ = some (.int .u64 (al : Nat))))
      have HTr := hide (fun (W W2 : World) (q1 : Below w9.heap.size w9 W) (q2 : Below W.heap.size W W2) => q1.trans (q2.mono q1.size))
      have HR9 := hide (fun (W : World) (q : Below w9.heap.size w9 W) => HR8.out.step q)
      have HB9 := hide (fun (W : World) (q : Below w9.heap.size w9 W) => HB8.out.trans (q.mono HB8.out.size))
      have HAt2 := hide (fun (W : World) (q : Below w9.heap.size w9 W) => HAt.out W (HB8.out.trans (q.mono HB8.out.size)))
      clear HS HAt HR HC HCv HSg HRSg HV HR8
      go_wp2_with fail
      go_region_held (fun W => Below w9.heap.size w9 W ∧ (convert 22 9 (.slice A m c)).run Try.prog W = .ok (.string sl) W ∧ W.cell? ⟨w3.heap.size, 0, none⟩ = some (.int .i64 h) ∧ W.cell? ⟨w3.heap.size, 1, none⟩ = some (.slice B n d) ∧ W.cell? ⟨w3.heap.size, 2, none⟩ = some (.int .i64 (tl : Nat)) ∧ W.cell? ⟨w3.heap.size, 3, none⟩ = some (.int .u32 (tw : Nat)) ∧ W.cell? ⟨w3.heap.size, 4, none⟩ = some (.int .u64 (th : Nat)) ∧ W.cell? ⟨w3.heap.size, 5, none⟩ = some (.int .u64 (tlo : Nat)) ∧ W.cell? ⟨w6.heap.size, 0, none⟩ = some (.int .u32 (aw : Nat)) ∧ W.cell? ⟨w6.heap.size, 1, none⟩ = some (.int .u64 (ah : Nat)) ∧ W.cell? ⟨w6.heap.size, 2, none⟩ = some (.int .u64 (al : Nat)) ∧ W.cell? ⟨w8.heap.size, 0, none⟩ = some (.int .u32 (aw : Nat)) ∧ W.cell? ⟨w8.heap.size, 1, none⟩ = some (.int .u64 (ah : Nat)) ∧ W.cell? ⟨w8.heap.size, 2, none⟩ = some (.int .u64 (al : Nat)))
        (first
          | exact HSB.out _ hbk2
          | exact ⟨HD.out, hSd⟩)
        (first
          | (go_at_call 15; with_reducible refine (bkAwake_any _).mono ?_; rintro en wk ⟨rfl, hbk⟩; have hbk2 := HTr.out _ _ (And.left (by assumption)) hbk)
          | (go_at_call 21; with_reducible refine (HFr.out _ B d n HN.out (HR9.out _ (And.left (by assumption)))).mono ?_; rintro en wk ⟨B1, d1, rfl, hbk, hRd1⟩; have hbk2 := HTr.out _ _ (And.left (by assumption)) hbk)
          | (go_at_call 22; with_reducible refine (HRO2.out _ n HN.out).mono ?_; rintro en wk ⟨B2, d2, rfl, hbk, hRd2⟩; have hRd3 := hRd1.step hbk; have hbk2 := HTr.out _ _ (And.left (by assumption)) hbk)
          | (go_at_call 20; with_reducible refine (HSm.out _ B1 d1 B2 d2 n HN.out hRd3 hRd2).mono ?_; rintro en wk ⟨rfl, hbk⟩; have hbk2 := HTr.out _ _ (And.left (by assumption)) hbk)
          | (go_at_call 23; with_reducible refine (HCo.out _).mono ?_; rintro en wk ⟨rfl, rfl⟩)
          | (go_at_call 24; refine (HAt2.out _ (And.left (by assumption))).mono ?_; rintro en wk ⟨D, dd, rfl, hO, hbk⟩; have hcvA := hAll.out wk D dd (RdB.own hO); have hbk2 := HTr.out _ _ (And.left (by assumption)) hbk)
          | (go_at_call 25; with_reducible refine (HTo.out _ B d n HN.out).mono ?_; rintro en wk ⟨rfl, hbk⟩; have hbk2 := HTr.out _ _ (And.left (by assumption)) hbk)
          | (go_at_call 26; with_reducible refine (HRi.out _ B d n HN.out).mono ?_; rintro en wk ⟨rfl, hbk⟩; have hbk2 := HTr.out _ _ (And.left (by assumption)) hbk))
      all_goals
        rename_i hSz
        have HF := hide (HB9.out _ hSz.1)
        clear hSz
        go_wp2_with fail
        exact bodyPost_ret (results_tmp rfl _ _ _) rfl ⟨rfl, HF.out⟩
end Go.Proofs.Ytdkdnfcmlnfkcaa
