/-
  Texts that belong together: MixRound, MixAlong, MixOne.
-/
import Derived.Test.YtobgbheodlpclaaAutoBytes
import Derived.Test.YtobgbheodlpclaaMixMath
import Derived.Laws.BitsAllLaws
/-
  mix: RotateLeft64, round, back.
-/
namespace Go.Proofs.Ytobgbheodlpclaa
open Go.RowKit
set_option maxRecDepth 100000

theorem rot_bits (x n : Nat) (hx : x < 18446744073709551616) (hn : n ≤ 64) : bits .or .u64 ((x : Int) * 2 ^ n % 18446744073709551616) ((x : Int) / 2 ^ (64 - n)) = ((rotL x n : Nat) : Int) := by
  have e1 : ((x : Int) * 2 ^ n % 18446744073709551616) = ((x * 2 ^ n % 18446744073709551616 : Nat) : Int) := by simp
  have e2 : ((x : Int) / 2 ^ (64 - n)) = ((x / 2 ^ (64 - n) : Nat) : Int) := by simp
  rw [e1, e2, u64_or_nat _ _ (Nat.mod_lt _ (by decide)) (Nat.lt_of_le_of_lt (Nat.div_le_self _ _) hx), rotL_or x n hn hx]
set_option maxHeartbeats 1000000 in
theorem rot29 (x : Nat) (w : World) (hx : x < 18446744073709551616) : Calls Try.prog 142 #[.int .u64 x, .int .i64 29] w fun e w' => e = .returned (.int .u64 (rotL x 29 : Nat)) ∧ w' = w := by
  have h : bits .or .u64 (IntKind.u64.wrap ((x : Int) * 536870912)) ((x : Int) / 34359738368) = ((rotL x 29 : Nat) : Int) := by
    rw [IntKind.wrap_u64]
    exact rot_bits x 29 hx (by decide)
  have hb : bits .and .u64 29 63 = 29 := by kernel_rfl
  go_enter Try.func142, Try.ntmps142
  go_wp2_with fail
  refine bodyPost_ret (results_tmp rfl _ _ _) rfl ⟨rfl, rfl⟩
set_option maxHeartbeats 1000000 in
theorem rot41 (x : Nat) (w : World) (hx : x < 18446744073709551616) : Calls Try.prog 142 #[.int .u64 x, .int .i64 41] w fun e w' => e = .returned (.int .u64 (rotL x 41 : Nat)) ∧ w' = w := by
  have h : bits .or .u64 (IntKind.u64.wrap ((x : Int) * 2199023255552)) ((x : Int) / 8388608) = ((rotL x 41 : Nat) : Int) := by
    rw [IntKind.wrap_u64]
    exact rot_bits x 41 hx (by decide)
  have hb : bits .and .u64 41 63 = 41 := by kernel_rfl
  go_enter Try.func142, Try.ntmps142
  go_wp2_with fail
  refine bodyPost_ret (results_tmp rfl _ _ _) rfl ⟨rfl, rfl⟩
set_option maxHeartbeats 1000000 in
theorem rotm41 (x : Nat) (w : World) (hx : x < 18446744073709551616) : Calls Try.prog 142 #[.int .u64 x, .int .i64 (-41)] w fun e w' => e = .returned (.int .u64 (rotL x 23 : Nat)) ∧ w' = w := by
  have h : bits .or .u64 (IntKind.u64.wrap ((x : Int) * 8388608)) ((x : Int) / 2199023255552) = ((rotL x 23 : Nat) : Int) := by
    rw [IntKind.wrap_u64]
    exact rot_bits x 23 hx (by decide)
  have hb : bits .and .u64 (IntKind.u64.wrap (-41)) 63 = 23 := by kernel_rfl
  go_enter Try.func142, Try.ntmps142
  go_wp2_with fail
  refine bodyPost_ret (results_tmp rfl _ _ _) rfl ⟨rfl, rfl⟩
set_option maxHeartbeats 1000000 in
theorem rotm29 (x : Nat) (w : World) (hx : x < 18446744073709551616) : Calls Try.prog 142 #[.int .u64 x, .int .i64 (-29)] w fun e w' => e = .returned (.int .u64 (rotL x 35 : Nat)) ∧ w' = w := by
  have h : bits .or .u64 (IntKind.u64.wrap ((x : Int) * 34359738368)) ((x : Int) / 536870912) = ((rotL x 35 : Nat) : Int) := by
    rw [IntKind.wrap_u64]
    exact rot_bits x 35 hx (by decide)
  have hb : bits .and .u64 (IntKind.u64.wrap (-29)) 63 = 35 := by kernel_rfl
  go_enter Try.func142, Try.ntmps142
  go_wp2_with fail
  refine bodyPost_ret (results_tmp rfl _ _ _) rfl ⟨rfl, rfl⟩

/-- A state, as a value. -/
def stV (p : Nat × Nat) : Value := .agg #[.int .u64 (p.1 : Nat), .int .u64 (p.2 : Nat)]
theorem wrap_mod (n : Nat) : IntKind.u64.wrap (n : Int) = ((n % 18446744073709551616 : Nat) : Int) := by
  rw [IntKind.wrap_u64]; omega
theorem two_rows (w : World) (X Y : Array Value) (t u : TypeId) : ((w.alloc (.cells X t)).alloc (.cells Y u)).heap[w.heap.size]? = some (.cells X t (0, 0)) ∧ ((w.alloc (.cells X t)).alloc (.cells Y u)).heap[w.heap.size + 1]? = some (.cells Y u (0, 0)) ∧ Below w.heap.size w ((w.alloc (.cells X t)).alloc (.cells Y u)) := by
  refine ⟨?_, ?_, ((Below.refl _ w).alloc (Nat.le_refl _) _).alloc (by simp) _⟩
  · rw [Below.heap_alloc _ _ _ (by simp)]
    exact World.alloc_heap_new _ _
  · have h := World.alloc_heap_new (w.alloc (.cells X t)) (Obj.cells Y u)
    simp only [World.size_alloc] at h
    exact h
/-- The world behind a result's store, and what it reads. -/
theorem set_two (w w3 : World) (n : Nat) (a b x y : Value) (t : TypeId) (h : w3.heap[n]? = some (.cells #[a, b] t (0, 0))) (hn : w.heap.size ≤ n) (hB : Below w.heap.size w w3) :
    ((w3.setCell ⟨n, 0, none⟩ x).setCell ⟨n, 1, none⟩ y).cell? ⟨n, 0, none⟩ = some x ∧ ((w3.setCell ⟨n, 0, none⟩ x).setCell ⟨n, 1, none⟩ y).cell? ⟨n, 1, none⟩ = some y ∧ Below w.heap.size w ((w3.setCell ⟨n, 0, none⟩ x).setCell ⟨n, 1, none⟩ y) := by
  have hfin := heap_setCell_same _ n 1 _ _ y (heap_setCell_same w3 n 0 _ _ x h)
  exact ⟨cell_of_row _ _ _ _ _ _ hfin, cell_of_row _ _ _ _ _ _ hfin, (hB.setCell (p := ⟨n, 0, none⟩) hn _).setCell (p := ⟨n, 1, none⟩) hn _⟩

set_option maxHeartbeats 2000000 in
theorem round_any (p : Nat × Nat) (v : Nat) (w : World) (hp : Two p) (hv : v < 18446744073709551616) :
    Calls Try.prog 127 #[stV p, .int .u64 v] w fun e w' => e = .returned (stV (roundN p v)) ∧ Below w.heap.size w w' := by
  obtain ⟨hi, lo⟩ := p
  obtain ⟨h1, h2⟩ := hp
  have HR := hide (show roundN (hi, lo) v = (hiR hi lo v, loR hi lo v) from rfl)
  rw [HR.out]
  simp only at h1 h2
  unfold loR
  have hx := u64_xor_nat hi v h1 hv
  have hxl := xor_lt hi v h1 hv
  have hm : IntKind.u64.wrap (((hi ^^^ v : Nat) : Int) * 11400714819323198485) = (((hi ^^^ v) * 0x9e3779b97f4a7c15 % 18446744073709551616 : Nat) : Int) := wrap_mod ((hi ^^^ v) * 0x9e3779b97f4a7c15)
  have hm1 : (hi ^^^ v) * 0x9e3779b97f4a7c15 % 18446744073709551616 < 18446744073709551616 := Nat.mod_lt _ (by decide)
  have hh : IntKind.u64.wrap (((rotL ((hi ^^^ v) * 0x9e3779b97f4a7c15 % 18446744073709551616) 29 : Nat) : Int) + (lo : Int)) = ((hiR hi lo v : Nat) : Int) := wrap_mod (rotL ((hi ^^^ v) * 0x9e3779b97f4a7c15 % 18446744073709551616) 29 + lo)
  have hhl : hiR hi lo v < 18446744073709551616 := Nat.mod_lt _ (by decide)
  have ha : IntKind.u64.wrap ((lo : Int) + (v : Int)) = (((lo + v) % 18446744073709551616 : Nat) : Int) := wrap_mod (lo + v)
  have hb : IntKind.u64.wrap ((((lo + v) % 18446744073709551616 : Nat) : Int) * 14029467366897019727) = (((lo + v) % 18446744073709551616 * 0xc2b2ae3d27d4eb4f % 18446744073709551616 : Nat) : Int) := wrap_mod ((lo + v) % 18446744073709551616 * 0xc2b2ae3d27d4eb4f)
  have hbl : (lo + v) % 18446744073709551616 * 0xc2b2ae3d27d4eb4f % 18446744073709551616 < 18446744073709551616 := Nat.mod_lt _ (by decide)
  have hy := u64_xor_nat (rotL ((lo + v) % 18446744073709551616 * 0xc2b2ae3d27d4eb4f % 18446744073709551616) 41) (hiR hi lo v) (rotL_lt _ _ (by decide) hbl) hhl
  generalize hiR hi lo v = H at hh hhl hy ⊢
  generalize (lo + v) % 18446744073709551616 * 0xc2b2ae3d27d4eb4f % 18446744073709551616 = m2 at hb hbl hy ⊢
  generalize (lo + v) % 18446744073709551616 = a2 at ha hb
  generalize (hi ^^^ v) * 0x9e3779b97f4a7c15 % 18446744073709551616 = m1 at hm hm1 hh
  generalize hi ^^^ v = x1 at hx hxl hm
  generalize rotL m2 41 ^^^ H = L at hy ⊢
  obtain ⟨r0, r1, hB⟩ := two_rows w #[.int .u64 (hi : Nat), .int .u64 (lo : Nat)] #[.int .u64 0, .int .u64 0] 152 152
  unfold stV
  go_enter Try.func127, Try.ntmps127
  go_wp2_with fail
  generalize ((w.alloc (.cells #[.int .u64 (hi : Nat), .int .u64 (lo : Nat)] 152)).alloc (.cells #[.int .u64 0, .int .u64 0] 152)) = w2 at r0 r1 hB ⊢
  have c0 : w2.cell? ⟨w.heap.size, 0, none⟩ = some (.int .u64 (hi : Nat)) := cell_of_row _ _ _ _ _ _ r0
  have c1 : w2.cell? ⟨w.heap.size, 1, none⟩ = some (.int .u64 (lo : Nat)) := cell_of_row _ _ _ _ _ _ r0
  clear h1 h2 hv hxl hhl r0
  go_quiet ((go_at_call 142; exact Calls.quiet_of_same (rot29 _ _ hm1)))
  have r2 : (w2.drewN nq).heap[w.heap.size + 1]? = some (.cells #[.int .u64 0, .int .u64 0] 152 (0, 0)) := r1
  have e0 : (w2.drewN nq).cell? ⟨w.heap.size, 0, none⟩ = some (.int .u64 (hi : Nat)) := c0
  have e1 : (w2.drewN nq).cell? ⟨w.heap.size, 1, none⟩ = some (.int .u64 (lo : Nat)) := c1
  have hB2 := below_drewN hB nq
  clear c0 c1 r1 hB
  generalize w2.drewN nq = w3 at r2 hB2 e0 e1 ⊢
  have d0 : w3.cell? ⟨w.heap.size + 1, 0, none⟩ = some (.int .u64 0) := cell_of_row _ _ _ _ _ _ r2
  have d1 : w3.cell? ⟨w.heap.size + 1, 1, none⟩ = some (.int .u64 0) := cell_of_row _ _ _ _ _ _ r2
  have z0 : w3.frozen? ⟨w.heap.size + 1, 0, none⟩ = false := frozen_of_row _ _ _ _ _ r2
  have z1 : w3.frozen? ⟨w.heap.size + 1, 1, none⟩ = false := frozen_of_row _ _ _ _ _ r2
  have HX := hide (set_two w w3 (w.heap.size + 1) _ _ (.int .u64 (H : Nat)) (.int .u64 (L : Nat)) _ r2 (by omega) hB2)
  clear r2 hB2
  go_wp2_with fail
  refine (rot41 _ _ hbl).mono ?_
  rintro e w4 ⟨rfl, rfl⟩
  go_wp2_with fail
  obtain ⟨y0, y1, hBf⟩ := HX.out
  refine bodyPost_ret (v := .agg #[.int .u64 (H : Nat), .int .u64 (L : Nat)]) (by simp [results, Try.results127, go_sem, y0, y1]) rfl ⟨rfl, hBf⟩

end Go.Proofs.Ytobgbheodlpclaa
/-
  mix: along.
-/
namespace Go.Proofs.Ytobgbheodlpclaa
open Go.RowKit
set_option maxRecDepth 100000

/-- Words that lie at an address, below block B. -/
def RdW (w : World) (B : Nat) (A : Option Addr) (l : List Nat) : Prop :=
  ∀ k x, l[k]? = some x → ∃ ad : Addr, A = some ad ∧ ad.block < B ∧ w.cell? (ad.add k) = some (.int .u64 (x : Nat))
theorem RdW.below {w w' : World} {B B' : Nat} {A : Option Addr} {l : List Nat} (h : RdW w B A l) (hb : Below B' w w') (hB : B ≤ B') : RdW w' B A l := fun k x hx => by
  obtain ⟨ad, e, hlt, hc⟩ := h k x hx
  exact ⟨ad, e, hlt, (hb.cell (by rw [add_block]; omega)).trans hc⟩
theorem RdW.mono {w : World} {B B' : Nat} {A : Option Addr} {l : List Nat} (h : RdW w B A l) (hB : B ≤ B') : RdW w B' A l := fun k x hx => by
  obtain ⟨ad, e, hlt, hc⟩ := h k x hx
  exact ⟨ad, e, by omega, hc⟩
theorem RdW.step {w w' : World} {A : Option Addr} {l : List Nat} (h : RdW w w.heap.size A l) (hb : Below w.heap.size w w') : RdW w' w'.heap.size A l := (h.below hb (Nat.le_refl _)).mono hb.size

set_option maxHeartbeats 2000000 in
theorem along_round (A : Option Addr) (c : Nat) (l : List Nat) (p : Nat × Nat) (w : World) (hp : Two p) (hl : ∀ x ∈ l, x < 18446744073709551616) (hR : RdW w w.heap.size A l) (hlen : l.length ≤ 1000000) :
    Calls Try.prog 126 #[stV p, .func (.func 127) #[] #[], .slice A l.length c] w fun e w' => e = .returned (stV (l.foldl roundN p)) ∧ Below w.heap.size w w' := by
  obtain ⟨r0, r1, hB⟩ := two_rows w #[.int .u64 (p.1 : Nat), .int .u64 (p.2 : Nat)] #[.int .u64 0, .int .u64 0] 152 152
  have HP := hide hp
  have hpv : stV p = .agg #[.int .u64 (p.1 : Nat), .int .u64 (p.2 : Nat)] := rfl
  rw [hpv]
  clear hpv
  go_enter Try.func126, Try.ntmps126
  go_wp2_with fail
  generalize ((w.alloc (.cells #[.int .u64 (p.1 : Nat), .int .u64 (p.2 : Nat)] 152)).alloc (.cells #[.int .u64 0, .int .u64 0] 152)) = w2 at r0 r1 hB ⊢
  go_loopw [8, 11] (fun x i wr => ∃ (k : Nat) (q : Nat × Nat), k ≤ l.length ∧ i = .int .i64 k ∧ Hid (q = (l.take k).foldl roundN p) ∧ Hid (Two q) ∧ wr.heap[w.heap.size]? = some (.cells #[.int .u64 (q.1 : Nat), .int .u64 (q.2 : Nat)] 152 (0, 0)) ∧ wr.heap[w.heap.size + 1]? = some (.cells #[.int .u64 0, .int .u64 0] 152 (0, 0)) ∧ Below w.heap.size w wr) (fun _ i _ => l.length - (intOf i).toNat)
  case atStart => exact ⟨0, p, Nat.zero_le _, rfl, hide rfl, HP, r0, r1, hB⟩
  case round =>
    obtain ⟨k, q, hk, rfl, HQ, HT, r0, r1, hB⟩ := hrel
    by_cases hlt : (k : Int) < l.length
    · have hkl : k < l.length := by omega
      have hx := List.getElem?_eq_getElem hkl
      have hxl := hl _ (List.getElem_mem hkl)
      obtain ⟨ad, rfl, hb, hc⟩ := (hR.below hB (Nat.le_refl _)) k _ hx
      have HS := hide (show (l.take (k + 1)).foldl roundN p = roundN ((l.take k).foldl roundN p) l[k] by rw [← List.take_append_getElem hkl, List.foldl_append]; rfl)
      generalize l[k] = x at hx hxl hc HS
      have c0 : wr.cell? ⟨w.heap.size, 0, none⟩ = some (.int .u64 (q.1 : Nat)) := cell_of_row _ _ _ _ _ _ r0
      have c1 : wr.cell? ⟨w.heap.size, 1, none⟩ = some (.int .u64 (q.2 : Nat)) := cell_of_row _ _ _ _ _ _ r0
      have HA := hide (show Calls Try.prog 127 #[.agg #[.int .u64 (q.1 : Nat), .int .u64 (q.2 : Nat)], .int .u64 x] wr (fun e w' => e = .returned (.agg #[.int .u64 ((roundN q x).1 : Nat), .int .u64 ((roundN q x).2 : Nat)]) ∧ Below wr.heap.size wr w') from round_any q x wr HT.out hxl)
      have HT2 := hide (roundN_two q x )
      rw [← HQ.out] at HS
      generalize roundN q x = q2 at HA HT2 HS
      clear hx
      go_wp2_with fail
      refine HA.out.mono ?_
      rintro e w3 ⟨rfl, hB3⟩
      have s0 := (hB3.block w.heap.size (Array.getElem?_eq_some_iff.1 r0).1).trans r0
      have s1 := (hB3.block (w.heap.size + 1) (Array.getElem?_eq_some_iff.1 r1).1).trans r1
      have hBx := hB.trans (hB3.mono hB.size)
      have d0 : w3.cell? ⟨w.heap.size, 0, none⟩ = some (.int .u64 (q.1 : Nat)) := cell_of_row _ _ _ _ _ _ s0
      have d1 : w3.cell? ⟨w.heap.size, 1, none⟩ = some (.int .u64 (q.2 : Nat)) := cell_of_row _ _ _ _ _ _ s0
      have z0 : w3.frozen? ⟨w.heap.size, 0, none⟩ = false := frozen_of_row _ _ _ _ _ s0
      have z1 : w3.frozen? ⟨w.heap.size, 1, none⟩ = false := frozen_of_row _ _ _ _ _ s0
      have HX := hide (And.intro (heap_setCell_same _ w.heap.size 1 _ _ (.int .u64 (q2.2 : Nat)) (heap_setCell_same w3 w.heap.size 0 _ _ (.int .u64 (q2.1 : Nat)) s0)) (And.intro (show ((w3.setCell ⟨w.heap.size, 0, none⟩ (.int .u64 (q2.1 : Nat))).setCell ⟨w.heap.size, 1, none⟩ (.int .u64 (q2.2 : Nat))).heap[w.heap.size + 1]? = some (.cells #[.int .u64 0, .int .u64 0] 152 (0, 0)) by
        rw [Below.heap_setCell _ _ _ _ (by simp), Below.heap_setCell _ _ _ _ (by simp)]; exact s1) ((hBx.setCell (p := ⟨w.heap.size, 0, none⟩) (Nat.le_refl _) (.int .u64 (q2.1 : Nat))).setCell (p := ⟨w.heap.size, 1, none⟩) (Nat.le_refl _) (.int .u64 (q2.2 : Nat)))))
      clear s0 s1 hBx hB3 r0 r1 hB c0 c1 HA
      go_wp2_with fail
      go_roundw
      case rel => exact ⟨k + 1, q2, by omega, rfl, hide HS.out.symm, HT2, HX.out.1, HX.out.2.1, HX.out.2.2⟩
      case measure => simp [intOf]; omega
    · obtain rfl : k = l.length := by omega
      rw [List.take_length] at HQ
      have c0 : wr.cell? ⟨w.heap.size, 0, none⟩ = some (.int .u64 (q.1 : Nat)) := cell_of_row _ _ _ _ _ _ r0
      have c1 : wr.cell? ⟨w.heap.size, 1, none⟩ = some (.int .u64 (q.2 : Nat)) := cell_of_row _ _ _ _ _ _ r0
      have d0 : wr.cell? ⟨w.heap.size + 1, 0, none⟩ = some (.int .u64 0) := cell_of_row _ _ _ _ _ _ r1
      have d1 : wr.cell? ⟨w.heap.size + 1, 1, none⟩ = some (.int .u64 0) := cell_of_row _ _ _ _ _ _ r1
      have z0 : wr.frozen? ⟨w.heap.size + 1, 0, none⟩ = false := frozen_of_row _ _ _ _ _ r1
      have z1 : wr.frozen? ⟨w.heap.size + 1, 1, none⟩ = false := frozen_of_row _ _ _ _ _ r1
      have HX := hide (set_two w wr (w.heap.size + 1) _ _ (.int .u64 (q.1 : Nat)) (.int .u64 (q.2 : Nat)) _ r1 (by omega) hB)
      clear r0 r1 hB
      go_wp2_with fail
      obtain ⟨y0, y1, hBf⟩ := HX.out
      refine bodyPost_ret (v := .agg #[.int .u64 (q.1 : Nat), .int .u64 (q.2 : Nat)]) (by simp [results, Try.results126, go_sem, y0, y1]) rfl ⟨by rw [← HQ.out]; rfl, hBf⟩

end Go.Proofs.Ytobgbheodlpclaa
/-
  mix.Start, closed.
-/
namespace Go.Proofs.Ytobgbheodlpclaa
open Go.RowKit
set_option maxRecDepth 100000

theorem row_words {W : World} {n : Nat} {l : List Nat} {t : TypeId} (h : W.heap[n]? = some (.cells (l.map (fun x => Value.int .u64 (x : Nat))).toArray t (0, 0))) : RdW W W.heap.size (some ⟨n, 0, none⟩) l := fun k x hx => by
  refine ⟨_, rfl, (Array.getElem?_eq_some_iff.1 h).1, ?_⟩
  have e : ((⟨n, 0, none⟩ : Addr).add k) = ⟨n, k, none⟩ := by unfold Addr.add; split <;> simp_all
  rw [e, cell_of_row _ _ _ _ _ _ h, List.getElem?_toArray, List.getElem?_map, hx]; rfl

set_option maxHeartbeats 1000000 in
theorem mixStart_any (w : World) : Calls Try.prog 141 #[] w fun e w' => e = .returned (stV startN) ∧ Below w.heap.size w w' := by
  go_enter Try.func141, Try.ntmps141
  go_wp2_with fail
  refine bodyPost_ret (v := .agg #[.int .u64 2611923443488327891, .int .u64 1376283091369227076]) (by simp [results, Try.results141, go_sem]) rfl ⟨rfl, (Below.refl _ w).alloc (Nat.le_refl _) _⟩

set_option maxHeartbeats 1000000 in
theorem closed_any (p : Nat × Nat) (n : Nat) (w : World) (hp : Two p) (hn : n ≤ 1000000) :
    Calls Try.prog 130 #[stV p, .int .i64 n] w fun e w' => e = .returned (stV (closedN p n)) ∧ Below w.heap.size w w' := by
  obtain ⟨r0, r1, hB⟩ := two_rows w #[.int .u64 (p.1 : Nat), .int .u64 (p.2 : Nat)] #[.int .u64 0, .int .u64 0] 152 28
  rw [show stV p = .agg #[.int .u64 (p.1 : Nat), .int .u64 (p.2 : Nat)] from rfl]
  have HA := hide (fun (W : World) (hR : RdW W W.heap.size (some ⟨w.heap.size + 2, 0, none⟩) [n, 18446744073709551615, 0, 0]) => (show Calls Try.prog 126 #[.agg #[.int .u64 (p.1 : Nat), .int .u64 (p.2 : Nat)], .func (.func 127) #[] #[], .slice (some ⟨w.heap.size + 2, 0, none⟩) 4 4] W (fun e w' => e = .returned (.agg #[.int .u64 ((closedN p n).1 : Nat), .int .u64 ((closedN p n).2 : Nat)]) ∧ Below W.heap.size W w') from along_round (some ⟨w.heap.size + 2, 0, none⟩) 4 [n, 18446744073709551615, 0, 0] p W hp (by simp; omega) hR (by simp)))
  have hz : ((w.alloc (.cells #[.int .u64 (p.1 : Nat), .int .u64 (p.2 : Nat)] 152)).alloc (.cells #[.int .u64 0, .int .u64 0] 28)).heap.size = w.heap.size + 2 := by simp
  show Calls _ _ _ _ fun e w' => e = .returned (.agg #[.int .u64 ((closedN p n).1 : Nat), .int .u64 ((closedN p n).2 : Nat)]) ∧ _
  generalize closedN p n = q at HA ⊢
  have hni : (n : Int) ≤ 1000000 := by omega
  go_enter Try.func130, Try.ntmps130
  go_wp2_with fail
  generalize ((w.alloc (.cells #[.int .u64 (p.1 : Nat), .int .u64 (p.2 : Nat)] 152)).alloc (.cells #[.int .u64 0, .int .u64 0] 28)) = w2 at r0 r1 hB hz ⊢
  have c0 : w2.cell? ⟨w.heap.size, 0, none⟩ = some (.int .u64 (p.1 : Nat)) := cell_of_row _ _ _ _ _ _ r0
  have c1 : w2.cell? ⟨w.heap.size, 1, none⟩ = some (.int .u64 (p.2 : Nat)) := cell_of_row _ _ _ _ _ _ r0
  go_wp2_with fail
  have hnew := World.alloc_heap_new w2 (Obj.cells #[.int .u64 (n : Nat), .int .u64 18446744073709551615, .int .u64 0, .int .u64 0] 26)
  rw [hz] at hnew
  have hB2 := hB.alloc hB.size (.cells #[.int .u64 (n : Nat), .int .u64 18446744073709551615, .int .u64 0, .int .u64 0] 26)
  have r2 : (w2.alloc (.cells #[.int .u64 (n : Nat), .int .u64 18446744073709551615, .int .u64 0, .int .u64 0] 26)).heap[w.heap.size + 1]? = some (.cells #[.int .u64 0, .int .u64 0] 28 (0, 0)) := by rw [Below.heap_alloc _ _ _ (by omega)]; exact r1
  refine (HA.out _ (row_words (l := [n, 18446744073709551615, 0, 0]) hnew)).mono ?_
  rintro e w3 ⟨rfl, hB3⟩
  have s1 := (hB3.block (w.heap.size + 1) (Array.getElem?_eq_some_iff.1 r2).1).trans r2
  have hBx := hB2.trans (hB3.mono hB2.size)
  clear r0 r1 hB hz c0 c1 HA hnew hB2 r2 hB3
  have d0 : w3.cell? ⟨w.heap.size + 1, 0, none⟩ = some (.int .u64 0) := cell_of_row _ _ _ _ _ _ s1
  have d1 : w3.cell? ⟨w.heap.size + 1, 1, none⟩ = some (.int .u64 0) := cell_of_row _ _ _ _ _ _ s1
  have z0 : w3.frozen? ⟨w.heap.size + 1, 0, none⟩ = false := frozen_of_row _ _ _ _ _ s1
  have z1 : w3.frozen? ⟨w.heap.size + 1, 1, none⟩ = false := frozen_of_row _ _ _ _ _ s1
  have HX := hide (set_two w w3 (w.heap.size + 1) _ _ (.int .u64 (q.1 : Nat)) (.int .u64 (q.2 : Nat)) _ s1 (by omega) hBx)
  clear s1 hBx
  go_wp2_with fail
  obtain ⟨y0, y1, hBf⟩ := HX.out
  refine bodyPost_ret (v := .agg #[.int .u64 (q.1 : Nat), .int .u64 (q.2 : Nat)]) (by simp [results, Try.results130, go_sem, y0, y1]) rfl ⟨rfl, hBf⟩
end Go.Proofs.Ytobgbheodlpclaa
