/-
  Texts that belong together: MixAlong, MixOne.
-/
import Derived.Test.YtdkdnfcmlnfkcaaMixRound
/-
  mix: along.
-/
namespace Go.Proofs.Ytdkdnfcmlnfkcaa
open Go.RowKit
set_option maxRecDepth 100000

/-- Words that lie at an address, below block B. -/
def RdW (w : World) (B : Nat) (A : Option Addr) (l : List Nat) : Prop :=
  ∀ k x, l[k]? = some x → ∃ ad : Addr, A = some ad ∧ ad.block < B ∧ w.cell? (ad.add k) = some (.int .u64 (x : Nat))
theorem RdW.below {w w' : World} {B B' : Nat} {A : Option Addr} {l : List Nat} (h : RdW w B A l) (hb : Below B' w w') (hB : B ≤ B') : RdW w' B A l := fun k x hx => by
  obtain ⟨ad, e, hlt, hc⟩ := h k x hx
  exact ⟨ad, e, hlt, (hb.cell (by rw [add_block]; omega)).trans hc⟩
theorem RdW.mono {w : World} {B B' : Nat} {A : Option Addr} {l : List Nat} (h : RdW w B A l) (hB : B ≤ B') : RdW w B' A l := fun k x hx => by
  obtain ⟨ad, e, hlt, hc⟩ := h k x hx
  exact ⟨ad, e, by omega, hc⟩
theorem RdW.step {w w' : World} {A : Option Addr} {l : List Nat} (h : RdW w w.heap.size A l) (hb : Below w.heap.size w w') : RdW w' w'.heap.size A l := (h.below hb (Nat.le_refl _)).mono hb.size

set_option maxHeartbeats 2000000 in
theorem along_round (A : Option Addr) (c : Nat) (l : List Nat) (p : Nat × Nat) (w : World) (hp : Two p) (hl : ∀ x ∈ l, x < 18446744073709551616) (hR : RdW w w.heap.size A l) (hlen : l.length ≤ 1000000) :
    Calls Try.prog 126 #[stV p, .func (.func 127) #[] #[], .slice A l.length c] w fun e w' => e = .returned (stV (l.foldl roundN p)) ∧ Below w.heap.size w w' := by
  obtain ⟨r0, r1, hB⟩ := two_rows w #[.int .u64 (p.1 : Nat), .int .u64 (p.2 : Nat)] #[.int .u64 0, .int .u64 0] 152 152
  have HP := hide hp
  have hpv : stV p = .agg #[.int .u64 (p.1 : Nat), .int .u64 (p.2 : Nat)] := rfl
  rw [hpv]
  clear hpv
  go_enter Try.func126, Try.ntmps126
  go_wp2_with fail
  generalize ((w.alloc (.cells #[.int .u64 (p.1 : Nat), .int .u64 (p.2 : Nat)] 152)).alloc (.cells #[.int .u64 0, .int .u64 0] 152)) = w2 at r0 r1 hB ⊢
  go_loopw [8, 11] (fun x i wr => ∃ (k : Nat) (q : Nat × Nat), k ≤ l.length ∧ i = .int .i64 k ∧ Hid (q = (l.take k).foldl roundN p) ∧ Hid (Two q) ∧ wr.heap[w.heap.size]? = some (.cells #[.int .u64 (q.1 : Nat), .int .u64 (q.2 : Nat)] 152 (0, 0)) ∧ wr.heap[w.heap.size + 1]? = some (.cells #[.int .u64 0, .int .u64 0] 152 (0, 0)) ∧ Below w.heap.size w wr) (fun _ i _ => l.length - (intOf i).toNat)
  case atStart => exact ⟨0, p, Nat.zero_le _, rfl, hide rfl, HP, r0, r1, hB⟩
  case round =>
    obtain ⟨k, q, hk, rfl, HQ, HT, r0, r1, hB⟩ := hrel
    by_cases hlt : (k : Int) < l.length
    · have hkl : k < l.length := by omega
      have hx := List.getElem?_eq_getElem hkl
      have hxl := hl _ (List.getElem_mem hkl)
      obtain ⟨ad, rfl, hb, hc⟩ := (hR.below hB (Nat.le_refl _)) k _ hx
      have HS := hide (show (l.take (k + 1)).foldl roundN p = roundN ((l.take k).foldl roundN p) l[k] by rw [← List.take_append_getElem hkl, List.foldl_append]; rfl)
      generalize l[k] = x at hx hxl hc HS
      have c0 : wr.cell? ⟨w.heap.size, 0, none⟩ = some (.int .u64 (q.1 : Nat)) := cell_of_row _ _ _ _ _ _ r0
      have c1 : wr.cell? ⟨w.heap.size, 1, none⟩ = some (.int .u64 (q.2 : Nat)) := cell_of_row _ _ _ _ _ _ r0
      have HA := hide (show Calls Try.prog 127 #[.agg #[.int .u64 (q.1 : Nat), .int .u64 (q.2 : Nat)], .int .u64 x] wr (fun e w' => e = .returned (.agg #[.int .u64 ((roundN q x).1 : Nat), .int .u64 ((roundN q x).2 : Nat)]) ∧ Below wr.heap.size wr w') from round_any q x wr HT.out hxl)
      have HT2 := hide (roundN_two q x )
      rw [← HQ.out] at HS
      generalize roundN q x = q2 at HA HT2 HS
      clear hx
      go_wp2_with fail
      refine HA.out.mono ?_
      rintro e w3 ⟨rfl, hB3⟩
      have s0 := (hB3.block w.heap.size (Array.getElem?_eq_some_iff.1 r0).1).trans r0
      have s1 := (hB3.block (w.heap.size + 1) (Array.getElem?_eq_some_iff.1 r1).1).trans r1
      have hBx := hB.trans (hB3.mono hB.size)
      have d0 : w3.cell? ⟨w.heap.size, 0, none⟩ = some (.int .u64 (q.1 : Nat)) := cell_of_row _ _ _ _ _ _ s0
      have d1 : w3.cell? ⟨w.heap.size, 1, none⟩ = some (.int .u64 (q.2 : Nat)) := cell_of_row _ _ _ _ _ _ s0
      have z0 : w3.frozen? ⟨w.heap.size, 0, none⟩ = false := frozen_of_row _ _ _ _ _ s0
      have z1 : w3.frozen? ⟨w.heap.size, 1, none⟩ = false := frozen_of_row _ _ _ _ _ s0
      have HX := hide (And.intro (heap_setCell_same _ w.heap.size 1 _ _ (.int .u64 (q2.2 : Nat)) (heap_setCell_same w3 w.heap.size 0 _ _ (.int .u64 (q2.1 : Nat)) s0)) (And.intro (show ((w3.setCell ⟨w.heap.size, 0, none⟩ (.int .u64 (q2.1 : Nat))).setCell ⟨w.heap.size, 1, none⟩ (.int .u64 (q2.2 : Nat))).heap[w.heap.size + 1]? = some (.cells #[.int .u64 0, .int .u64 0] 152 (0, 0)) by
        rw [Below.heap_setCell _ _ _ _ (by simp), Below.heap_setCell _ _ _ _ (by simp)]; exact s1) ((hBx.setCell (p := ⟨w.heap.size, 0, none⟩) (Nat.le_refl _) (.int .u64 (q2.1 : Nat))).setCell (p := ⟨w.heap.size, 1, none⟩) (Nat.le_refl _) (.int .u64 (q2.2 : Nat)))))
      clear s0 s1 hBx hB3 r0 r1 hB c0 c1 HA
      go_wp2_with fail
      go_roundw
      case rel => exact ⟨k + 1, q2, by omega, rfl, hide HS.out.symm, HT2, HX.out.1, HX.out.2.1, HX.out.2.2⟩
      case measure => simp [intOf]; omega
    · obtain rfl : k = l.length := by omega
      rw [List.take_length] at HQ
      have c0 : wr.cell? ⟨w.heap.size, 0, none⟩ = some (.int .u64 (q.1 : Nat)) := cell_of_row _ _ _ _ _ _ r0
      have c1 : wr.cell? ⟨w.heap.size, 1, none⟩ = some (.int .u64 (q.2 : Nat)) := cell_of_row _ _ _ _ _ _ r0
      have d0 : wr.cell? ⟨w.heap.size + 1, 0, none⟩ = some (.int .u64 0) := cell_of_row _ _ _ _ _ _ r1
      have d1 : wr.cell? ⟨w.heap.size + 1, 1, none⟩ = some (.int .u64 0) := cell_of_row _ _ _ _ _ _ r1
      have z0 : wr.frozen? ⟨w.heap.size + 1, 0, none⟩ = false := frozen_of_row _ _ _ _ _ r1
      have z1 : wr.frozen? ⟨w.heap.size + 1, 1, none⟩ = false := frozen_of_row _ _ _ _ _ r1
      have HX := hide (set_two w wr (w.heap.size + 1) _ _ (.int .u64 (q.1 : Nat)) (.int .u64 (q.2 : Nat)) _ r1 (by omega) hB)
      clear r0 r1 hB
      go_wp2_with fail
      obtain ⟨y0, y1, hBf⟩ := HX.out
      refine bodyPost_ret (v := .agg #[.int .u64 (q.1 : Nat), .int .u64 (q.2 : Nat)]) (by simp [results, Try.results126, go_sem, y0, y1]) rfl ⟨by rw [← HQ.out]; rfl, hBf⟩

end Go.Proofs.Ytdkdnfcmlnfkcaa
/-
  mix.Start, closed.
-/
namespace Go.Proofs.Ytdkdnfcmlnfkcaa
open Go.RowKit
set_option maxRecDepth 100000

theorem row_words {W : World} {n : Nat} {l : List Nat} {t : TypeId} (h : W.heap[n]? = some (.cells (l.map (fun x => Value.int .u64 (x : Nat))).toArray t (0, 0))) : RdW W W.heap.size (some ⟨n, 0, none⟩) l := fun k x hx => by
  refine ⟨_, rfl, (Array.getElem?_eq_some_iff.1 h).1, ?_⟩
  have e : ((⟨n, 0, none⟩ : Addr).add k) = ⟨n, k, none⟩ := by unfold Addr.add; split <;> simp_all
  rw [e, cell_of_row _ _ _ _ _ _ h, List.getElem?_toArray, List.getElem?_map, hx]; rfl

set_option maxHeartbeats 1000000 in
theorem mixStart_any (w : World) : Calls Try.prog 141 #[] w fun e w' => e = .returned (stV startN) ∧ Below w.heap.size w w' := by
  go_enter Try.func141, Try.ntmps141
  go_wp2_with fail
  refine bodyPost_ret (v := .agg #[.int .u64 2611923443488327891, .int .u64 1376283091369227076]) (by simp [results, Try.results141, go_sem]) rfl ⟨rfl, (Below.refl _ w).alloc (Nat.le_refl _) _⟩

set_option maxHeartbeats 1000000 in
theorem closed_any (p : Nat × Nat) (n : Nat) (w : World) (hp : Two p) (hn : n ≤ 1000000) :
    Calls Try.prog 130 #[stV p, .int .i64 n] w fun e w' => e = .returned (stV (closedN p n)) ∧ Below w.heap.size w w' := by
  obtain ⟨r0, r1, hB⟩ := two_rows w #[.int .u64 (p.1 : Nat), .int .u64 (p.2 : Nat)] #[.int .u64 0, .int .u64 0] 152 28
  rw [show stV p = .agg #[.int .u64 (p.1 : Nat), .int .u64 (p.2 : Nat)] from rfl]
  have HA := hide (fun (W : World) (hR : RdW W W.heap.size (some ⟨w.heap.size + 2, 0, none⟩) [n, 18446744073709551615, 0, 0]) => (show Calls Try.prog 126 #[.agg #[.int .u64 (p.1 : Nat), .int .u64 (p.2 : Nat)], .func (.func 127) #[] #[], .slice (some ⟨w.heap.size + 2, 0, none⟩) 4 4] W (fun e w' => e = .returned (.agg #[.int .u64 ((closedN p n).1 : Nat), .int .u64 ((closedN p n).2 : Nat)]) ∧ Below W.heap.size W w') from along_round (some ⟨w.heap.size + 2, 0, none⟩) 4 [n, 18446744073709551615, 0, 0] p W hp (by simp; omega) hR (by simp)))
  have hz : ((w.alloc (.cells #[.int .u64 (p.1 : Nat), .int .u64 (p.2 : Nat)] 152)).alloc (.cells #[.int .u64 0, .int .u64 0] 28)).heap.size = w.heap.size + 2 := by simp
  show Calls _ _ _ _ fun e w' => e = .returned (.agg #[.int .u64 ((closedN p n).1 : Nat), .int .u64 ((closedN p n).2 : Nat)]) ∧ _
  generalize closedN p n = q at HA ⊢
  have hni : (n : Int) ≤ 1000000 := by omega
  go_enter Try.func130, Try.ntmps130
  go_wp2_with fail
  generalize ((w.alloc (.cells #[.int .u64 (p.1 : Nat), .int .u64 (p.2 : Nat)] 152)).alloc (.cells #[.int .u64 0, .int .u64 0] 28)) = w2 at r0 r1 hB hz ⊢
  have c0 : w2.cell? ⟨w.heap.size, 0, none⟩ = some (.int .u64 (p.1 : Nat)) := cell_of_row _ _ _ _ _ _ r0
  have c1 : w2.cell? ⟨w.heap.size, 1, none⟩ = some (.int .u64 (p.2 : Nat)) := cell_of_row _ _ _ _ _ _ r0
  go_wp2_with fail
  have hnew := World.alloc_heap_new w2 (Obj.cells #[.int .u64 (n : Nat), .int .u64 18446744073709551615, .int .u64 0, .int .u64 0] 26)
  rw [hz] at hnew
  have hB2 := hB.alloc hB.size (.cells #[.int .u64 (n : Nat), .int .u64 18446744073709551615, .int .u64 0, .int .u64 0] 26)
  have r2 : (w2.alloc (.cells #[.int .u64 (n : Nat), .int .u64 18446744073709551615, .int .u64 0, .int .u64 0] 26)).heap[w.heap.size + 1]? = some (.cells #[.int .u64 0, .int .u64 0] 28 (0, 0)) := by rw [Below.heap_alloc _ _ _ (by omega)]; exact r1
  refine (HA.out _ (row_words (l := [n, 18446744073709551615, 0, 0]) hnew)).mono ?_
  rintro e w3 ⟨rfl, hB3⟩
  have s1 := (hB3.block (w.heap.size + 1) (Array.getElem?_eq_some_iff.1 r2).1).trans r2
  have hBx := hB2.trans (hB3.mono hB2.size)
  clear r0 r1 hB hz c0 c1 HA hnew hB2 r2 hB3
  have d0 : w3.cell? ⟨w.heap.size + 1, 0, none⟩ = some (.int .u64 0) := cell_of_row _ _ _ _ _ _ s1
  have d1 : w3.cell? ⟨w.heap.size + 1, 1, none⟩ = some (.int .u64 0) := cell_of_row _ _ _ _ _ _ s1
  have z0 : w3.frozen? ⟨w.heap.size + 1, 0, none⟩ = false := frozen_of_row _ _ _ _ _ s1
  have z1 : w3.frozen? ⟨w.heap.size + 1, 1, none⟩ = false := frozen_of_row _ _ _ _ _ s1
  have HX := hide (set_two w w3 (w.heap.size + 1) _ _ (.int .u64 (q.1 : Nat)) (.int .u64 (q.2 : Nat)) _ s1 (by omega) hBx)
  clear s1 hBx
  go_wp2_with fail
  obtain ⟨y0, y1, hBf⟩ := HX.out
  refine bodyPost_ret (v := .agg #[.int .u64 (q.1 : Nat), .int .u64 (q.2 : Nat)]) (by simp [results, Try.results130, go_sem, y0, y1]) rfl ⟨rfl, hBf⟩
end Go.Proofs.Ytdkdnfcmlnfkcaa
