/-
  The reference's Of: the same prints (12.1).
-/
import Derived.Test.YtbklgijndjpgoaaDoorMkRef
import Derived.Test.YtbklgijndjpgoaaDoorMkAny
namespace Go.Proofs.YtbklgijndjpgoaaDoor
open Go.RowKit
set_option maxRecDepth 100000

theorem hit_path {p : ByteArray} {n : Nd} (h : hit p n = true) : n.path = p := by
  unfold hit at h
  rw [beq_iff_eq] at h
  exact toL_inj (by rw [← toL_list, ← toL_list, h])
theorem prt_root (t : List Nd) (p : ByteArray) (h : p.toList.isEmpty = true) : prtL p t = (sumL (rtL t p), true) := by
  unfold prtL topL rtL
  have hp : p = ⟨#[]⟩ := by
    have h2 : toL p = [] := by rw [← toL_list]; exact List.isEmpty_iff.1 h
    exact toL_inj (by rw [h2]; rfl)
  rw [if_pos h, if_pos rfl, h]
  subst hp
  simp [ndT, rootNd]
theorem prt_none (t : List Nd) (p : ByteArray) (h : p.toList.isEmpty = false) (ha : atL p t = -1) : prtL p t = ((0, 0), false) := by
  have e1 : topL p t = (zeroNd, false) := by
    unfold topL findL
    rw [if_neg (by rw [h]; decide), if_pos (by omega)]
  unfold prtL
  rw [e1]; rfl
theorem prt_some (t : List Nd) (p : ByteArray) (h : p.toList.isEmpty = false) (ha : ¬ atL p t < 0) : prtL p t = (sumL (rtL t p), true) := by
  rcases at_cases p t with h1 | ⟨k, n, h1, h2, h3⟩
  · omega
  · have e : t.getD k zeroNd = n := by rw [List.getD_eq_getElem?_getD, h2]; rfl
    have e2 : t.getD k ⟨⟨#[]⟩, 1, 0, 0, ⟨#[]⟩⟩ = n := by rw [List.getD_eq_getElem?_getD, h2]; rfl
    have hp := hit_path h3
    have e1 : topL p t = (n, true) := by
      unfold topL findL
      rw [if_neg (by rw [h]; decide), if_neg ha, h1, Int.toNat_natCast, e]
    unfold prtL rtL
    rw [e1, h, h1, Int.toNat_natCast, e2]
    unfold ndT
    rw [hp, if_pos rfl]
    by_cases hk : n.kind = 1
    · rw [if_pos hk, if_pos (by simp [hk])]
    · rw [if_neg hk, if_neg (by simp [hk])]
theorem prt_node {t : List Nd} (hT : MT t) {n : Nd} (h : n ∈ t) : prtL n.path t = (sumL (ndT t n), true) := by
  obtain ⟨k, h1, _⟩ := at_mem hT h
  rw [prt_some t n.path (hT.named n h) (by omega), rt_node hT h]
theorem rt_len {t : List Nd} (hT : MT t) (p : ByteArray) : (rtL t p).length ≤ 1000000 := by
  rcases rt_cases t p with ⟨_, e⟩ | ⟨_, _, e⟩ | ⟨_, _, _, _, _, _, e⟩ | ⟨k, n, _, _, hn, _, e⟩
  · rw [e]; have := dirT_len hT p; omega
  · rw [e]; have := dirT_len hT p; omega
  · rw [e]; have := dirT_len hT p; omega
  · rw [e]; have := hT.data n (List.mem_of_getElem? hn); simpa [toL] using this

set_option maxHeartbeats 16000000 in
theorem refPrt_any (A : Option Addr) (t : List Nd) (c : Nat) (p : ByteArray) (w : World) (hA : RdN w w.heap.size A t) (hT : MT t) :
    Calls Tryd.prog 10 #[.slice A t.length c, .string p] w fun e w' => e = .returned (.tuple #[.agg #[.int .u64 ((prtL p t).1.1 : Nat), .int .u64 ((prtL p t).1.2 : Nat)], .bool (prtL p t).2]) ∧ Below w.heap.size w w' := by
  have hB0 : Below w.heap.size w (w.alloc (.cells #[.int .u64 0, .int .u64 0] 28)) := (Below.refl _ w).alloc (Nat.le_refl _) _
  have r0 := World.alloc_heap_new w (Obj.cells #[.int .u64 0, .int .u64 0] 28)
  have hl := hT.len
  have HAt := hide (refAt_any A t c p (w.alloc (.cells #[.int .u64 0, .int .u64 0] 28)) (hA.step hB0) (by omega))
  have HTx := hide (fun (W : World) (h : Below w.heap.size w W) => refTx_all A t c hT 600 p (by omega) W (hA.step h))
  have HOf := hide (fun (W : World) => refOf_any (rtL t p) W (rt_len hT p))
  have hcases : (p.toList.isEmpty = true ∧ prtL p t = (sumL (rtL t p), true)) ∨ (p.toList.isEmpty = false ∧ atL p t < 0 ∧ prtL p t = ((0, 0), false)) ∨ (p.toList.isEmpty = false ∧ ¬ atL p t < 0 ∧ prtL p t = (sumL (rtL t p), true)) := by
    cases he : p.toList.isEmpty with
    | true => exact .inl ⟨rfl, prt_root t p he⟩
    | false =>
      by_cases ha : atL p t < 0
      · refine .inr (.inl ⟨rfl, ha, prt_none t p he ?_⟩)
        rcases at_cases p t with h | ⟨k, n, h, _, _⟩ <;> omega
      · exact .inr (.inr ⟨rfl, ha, prt_some t p he ha⟩)
  have hpe : p.toList.isEmpty = true → (p.toList == []) = true := fun h => by rw [List.isEmpty_iff.1 h]; rfl
  have hpn : p.toList.isEmpty = false → (p.toList == []) = false := fun h => by cases hc : p.toList with | nil => rw [hc] at h; cases h | cons a b => rfl
  obtain ⟨V, hV⟩ : ∃ V, V = prtL p t := ⟨_, rfl⟩
  rw [← hV] at hcases ⊢
  rw [show stV (sumL (rtL t p)) = .agg #[.int .u64 ((sumL (rtL t p)).1 : Nat), .int .u64 ((sumL (rtL t p)).2 : Nat)] from rfl] at HOf
  generalize sumL (rtL t p) = q at HOf hcases
  generalize rtL t p = X at HTx HOf
  generalize atL p t = z at HAt hcases
  clear hV hA hT
  rcases hcases with ⟨he, rfl⟩ | ⟨he, hz, rfl⟩ | ⟨he, hz, rfl⟩
  · have hq := hpe he
    clear hpe hpn HAt
    go_enter Tryd.func10, Tryd.ntmps10
    go_wp2_with fail
    refine (HTx.out _ hB0).mono ?_
    rintro e w1 ⟨rfl, hb1⟩
    have HB1 := hide (hB0.trans (hb1.mono hB0.size))
    have s1 := (hb1.block w.heap.size (by simp)).trans r0
    clear HTx r0 hB0 hb1
    go_wp2_with fail
    refine (HOf.out _).mono ?_
    rintro e w2 ⟨rfl, hb2⟩
    have s2 := (hb2.block w.heap.size (Array.getElem?_eq_some_iff.1 s1).1).trans s1
    have hB2 := HB1.out.trans (hb2.mono HB1.out.size)
    have z0 : w2.frozen? ⟨w.heap.size, 0, none⟩ = false := frozen_of_row _ _ _ _ _ s2
    have z1 : w2.frozen? ⟨w.heap.size, 1, none⟩ = false := frozen_of_row _ _ _ _ _ s2
    have d0 : w2.cell? ⟨w.heap.size, 0, none⟩ = some (.int .u64 0) := cell_of_row _ _ _ _ _ _ s2
    have d1 : w2.cell? ⟨w.heap.size, 1, none⟩ = some (.int .u64 0) := cell_of_row _ _ _ _ _ _ s2
    go_wp2_with fail
    obtain ⟨y0, y1, hBf⟩ := set_two w w2 w.heap.size _ _ (.int .u64 (q.1 : Nat)) (.int .u64 (q.2 : Nat)) _ s2 (Nat.le_refl _) hB2
    exact bodyPost_ret (v := .tuple #[.agg #[.int .u64 (q.1 : Nat), .int .u64 (q.2 : Nat)], .bool true]) (by simp [results, Tryd.results10, go_sem, y0, y1]) rfl ⟨rfl, hBf⟩
  · have hq := hpn he
    clear hpe hpn
    go_enter Tryd.func10, Tryd.ntmps10
    go_wp2_with fail
    refine HAt.out.mono ?_
    rintro e w2 ⟨rfl, hb2⟩
    have s2 := (hb2.block w.heap.size (by simp)).trans r0
    have hB2 := hB0.trans (hb2.mono hB0.size)
    have z0 : w2.frozen? ⟨w.heap.size, 0, none⟩ = false := frozen_of_row _ _ _ _ _ s2
    have z1 : w2.frozen? ⟨w.heap.size, 1, none⟩ = false := frozen_of_row _ _ _ _ _ s2
    have d0 : w2.cell? ⟨w.heap.size, 0, none⟩ = some (.int .u64 0) := cell_of_row _ _ _ _ _ _ s2
    have d1 : w2.cell? ⟨w.heap.size, 1, none⟩ = some (.int .u64 0) := cell_of_row _ _ _ _ _ _ s2
    clear HAt r0 hB0 hb2
    go_wp2_with fail
    obtain ⟨y0, y1, hBf⟩ := set_two w w2 w.heap.size _ _ (.int .u64 0) (.int .u64 0) _ s2 (Nat.le_refl _) hB2
    exact bodyPost_ret (v := .tuple #[.agg #[.int .u64 0, .int .u64 0], .bool false]) (by simp [results, Tryd.results10, go_sem, y0, y1]) rfl ⟨rfl, hBf⟩
  · have hq := hpn he
    clear hpe hpn
    go_enter Tryd.func10, Tryd.ntmps10
    go_wp2_with fail
    refine HAt.out.mono ?_
    rintro e w0 ⟨rfl, hb0⟩
    have s0 := (hb0.block w.heap.size (by simp)).trans r0
    have hBA := hB0.trans (hb0.mono hB0.size)
    clear HAt r0 hB0 hb0
    go_wp2_with fail
    refine (HTx.out _ hBA).mono ?_
    rintro e w1 ⟨rfl, hb1⟩
    have HB1 := hide (hBA.trans (hb1.mono hBA.size))
    have s1 := (hb1.block w.heap.size (Array.getElem?_eq_some_iff.1 s0).1).trans s0
    clear HTx s0 hBA hb1
    go_wp2_with fail
    refine (HOf.out _).mono ?_
    rintro e w2 ⟨rfl, hb2⟩
    have s2 := (hb2.block w.heap.size (Array.getElem?_eq_some_iff.1 s1).1).trans s1
    have hB2 := HB1.out.trans (hb2.mono HB1.out.size)
    have z0 : w2.frozen? ⟨w.heap.size, 0, none⟩ = false := frozen_of_row _ _ _ _ _ s2
    have z1 : w2.frozen? ⟨w.heap.size, 1, none⟩ = false := frozen_of_row _ _ _ _ _ s2
    have d0 : w2.cell? ⟨w.heap.size, 0, none⟩ = some (.int .u64 0) := cell_of_row _ _ _ _ _ _ s2
    have d1 : w2.cell? ⟨w.heap.size, 1, none⟩ = some (.int .u64 0) := cell_of_row _ _ _ _ _ _ s2
    go_wp2_with fail
    obtain ⟨y0, y1, hBf⟩ := set_two w w2 w.heap.size _ _ (.int .u64 (q.1 : Nat)) (.int .u64 (q.2 : Nat)) _ s2 (Nat.le_refl _) hB2
    exact bodyPost_ret (v := .tuple #[.agg #[.int .u64 (q.1 : Nat), .int .u64 (q.2 : Nat)], .bool true]) (by simp [results, Tryd.results10, go_sem, y0, y1]) rfl ⟨rfl, hBf⟩
end Go.Proofs.YtbklgijndjpgoaaDoor
