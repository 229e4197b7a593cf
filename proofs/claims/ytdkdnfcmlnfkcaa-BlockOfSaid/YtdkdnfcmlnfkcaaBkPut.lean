/-
  A signature's bytes: block.Put.
-/
import Derived.Test.YtdkdnfcmlnfkcaaBkRight
import Derived.Test.YtdkdnfcmlnfkcaaVintOwnSum
import Derived.Deep.RegionHeld3
namespace Go.Proofs.Ytdkdnfcmlnfkcaa
open Go.RowKit
set_option maxRecDepth 100000

/-- A sign's bytes. -/
def signBy (s : Sg) : List UInt8 := groupsL s.weak ++ (wordL s.hi ++ wordL s.lo)
theorem signBy_len (s : Sg) : (signBy s).length ≤ 26 := by
  have h1 := groupsL_le s.weak
  have h2 := wordL_len s.hi
  have h3 := wordL_len s.lo
  unfold signBy
  rw [List.length_append, List.length_append]; omega
/-- A signature's bytes. -/
def putS (size : Int) (l : List Sg) (tail : Int) (s : Sg) : List UInt8 :=
  if rightS size l.length tail s = true then groupsL size.toNat ++ groupsL l.length ++ l.flatMap signBy ++ groupsL tail.toNat ++ (if tail ≠ 0 then signBy s else []) else []

set_option maxHeartbeats 2000000 in
theorem num_o (n : Nat) (w : World) (hn : n ≤ 1000000) : Calls Try.prog 73 #[.int .i64 (n : Nat)] w (BytesO w (groupsL n)) := by
  have HN := hide (putNum_o none [] 0 n w (RdB.nil _ _ _) (by simp) (by omega))
  have q0 : IntKind.u64.wrap (n : Int) = (n : Int) := by rw [IntKind.wrap_u64]; omega
  rw [List.nil_append] at HN
  go_enter Try.func73, Try.ntmps73
  go_wp2_with fail
  refine HN.out.mono ?_
  rintro e w1 ⟨D, d, rfl, h1, h2, h3⟩
  go_wp2_with fail
  exact bodyPost_ret (results_tmp rfl _ _ _) rfl ⟨D, d, rfl, h1, h2, h3⟩

set_option maxHeartbeats 4000000 in
theorem sign_o (s : Sg) (w : World) (hs : s.fits) : Calls Try.prog 74 #[.agg s.cells] w (BytesO w (signBy s)) := by
  obtain ⟨wk, hi, lo⟩ := s
  obtain ⟨f1, f2, f3⟩ := hs
  simp only at f1 f2 f3
  have hV : signBy ⟨wk, hi, lo⟩ = groupsL wk ++ (wordL hi ++ wordL lo) := rfl
  rw [hV]
  have HN := hide (fun W => (show Calls Try.prog 107 #[.slice none 0 0, .int .u64 (wk : Nat)] W (BytesO W (groupsL wk)) from putNum_o none [] 0 wk W (RdB.nil _ _ _) (by simp) (by omega)))
  have HS := hide (fun (D : Option Addr) (d : Nat) (W : World) (hR : RdB W W.heap.size D (groupsL wk)) => putSum_o D (groupsL wk) d hi lo W hR (by have := groupsL_le wk; omega) f2 f3)
  have q0 : IntKind.u64.wrap (wk : Int) = (wk : Int) := by rw [IntKind.wrap_u64]; omega
  have hrow := World.alloc_heap_new w (Obj.cells #[.int .u32 (wk : Nat), .int .u64 (hi : Nat), .int .u64 (lo : Nat)] 30)
  have HB := hide ((Below.refl w.heap.size w).alloc (Nat.le_refl _) (.cells #[.int .u32 (wk : Nat), .int .u64 (hi : Nat), .int .u64 (lo : Nat)] 30))
  obtain ⟨w0, hw0⟩ : ∃ w0, w0 = w.alloc (.cells #[.int .u32 (wk : Nat), .int .u64 (hi : Nat), .int .u64 (lo : Nat)] 30) := ⟨_, rfl⟩
  have HK := hide (fun (W : World) (h : Below w0.heap.size w0 W) => (⟨h, (h.cell (p := ⟨w.heap.size, 0, none⟩) (by rw [hw0]; simp)).trans (by rw [hw0]; exact cell_of_row _ _ _ _ _ _ hrow), (h.cell (p := ⟨w.heap.size, 1, none⟩) (by rw [hw0]; simp)).trans (by rw [hw0]; exact cell_of_row _ _ _ _ _ _ hrow), (h.cell (p := ⟨w.heap.size, 2, none⟩) (by rw [hw0]; simp)).trans (by rw [hw0]; exact cell_of_row _ _ _ _ _ _ hrow)⟩ :
    Below w0.heap.size w0 W ∧ W.cell? ⟨w.heap.size, 0, none⟩ = some (.int .u32 (wk : Nat)) ∧ W.cell? ⟨w.heap.size, 1, none⟩ = some (.int .u64 (hi : Nat)) ∧ W.cell? ⟨w.heap.size, 2, none⟩ = some (.int .u64 (lo : Nat))))
  rw [← hw0] at HB
  have hd0 := (Below.refl w0.heap.size w0).drew
  show Calls _ _ #[.agg #[.int .u32 (wk : Nat), .int .u64 (hi : Nat), .int .u64 (lo : Nat)]] _ _
  go_enter Try.func74, Try.ntmps74
  clear hrow hV
  go_wp2_with fail
  rw [← hw0]
  clear hw0
  go_region_held3 (fun W => Below w0.heap.size w0 W ∧ W.cell? ⟨w.heap.size, 0, none⟩ = some (.int .u32 (wk : Nat)) ∧ W.cell? ⟨w.heap.size, 1, none⟩ = some (.int .u64 (hi : Nat)) ∧ W.cell? ⟨w.heap.size, 2, none⟩ = some (.int .u64 (lo : Nat)))
    (first
      | exact HK.out _ hd0
      | exact HK.out _ hbk)
    (first
      | (go_at_call 107; go_loud (with_reducible refine (HN.out _).mono ?_); rintro en wk1 ⟨D, d, rfl, hO1, hc1, hb1⟩; go_loud (have hbA := (And.left (by assumption) : Below w0.heap.size w0 _).trans (hb1.mono (And.left (by assumption) : Below w0.heap.size w0 _).size)); have hbk := hbA)
      | (go_at_call 108; go_loud (with_reducible refine (HS.out D d _ (RdB.own hO1)).mono ?_); rintro en wk2 ⟨E, f, rfl, hO2, hc2, hb2⟩; have hbk := (And.left (by assumption) : Below w0.heap.size w0 _).trans (hb2.mono (And.left (by assumption) : Below w0.heap.size w0 _).size)))
  all_goals
    have hfin : BytesO w (groupsL wk ++ (wordL hi ++ wordL lo)) (.returned (.slice E (groupsL wk ++ (wordL hi ++ wordL lo)).length f)) wk2 := (show BytesO wk1 _ _ _ from ⟨E, f, rfl, hO2, hc2, hb2⟩).back (HB.out.trans (hbA.mono HB.out.size))
    have HFin := hide hfin
    clear hfin hO2 hc2 hb2 hO1 hc1 hb1
    go_wp2_with fail
    obtain ⟨E', f', e', j1, j2, j3⟩ := HFin.out
    injection e' with e'
    injection e' with ea eb ec
    subst ea ec
    exact bodyPost_ret (results_tmp rfl _ _ _) rfl ⟨E, f, by simp only [List.length_append]; rfl, j1, j2, j3⟩
end Go.Proofs.Ytdkdnfcmlnfkcaa
