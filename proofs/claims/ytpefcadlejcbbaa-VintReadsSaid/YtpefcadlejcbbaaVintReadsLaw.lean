/-
  The law VintReads: its walk.
-/
import Derived.Test.YtpefcadlejcbbaaVintRefSum
import Derived.Test.YtpefcadlejcbbaaVintFew
import Derived.Test.YtpefcadlejcbbaaVintPutsLaw
import Derived.Test.YtpefcadlejcbbaaVintOpen
import Derived.Test.YtpefcadlejcbbaaVintSumEq
import Derived.Test.YtpefcadlejcbbaaVintAwake
import Derived.Deep.RegionHeld3
namespace Go.Proofs.Ytpefcadlejcbbaa
open Go.RowKit
set_option maxRecDepth 100000

/-- The text that the reference's reader keeps. -/
def refS (l : List UInt8) (e : Nat) : ByteArray := ofL (if e ≠ 0 then [] else l)
theorem refR_S (l : List UInt8) (e : Nat) : refR l e = .agg #[.string (refS l e), .int .i64 (e : Nat)] := rfl
theorem refS_size (l : List UInt8) (e : Nat) : (refS l e).size = leftN e l := by
  unfold refS leftN
  by_cases h : e ≠ 0
  · rw [if_pos h, if_pos h]; rfl
  · rw [if_neg h, if_neg h]; exact ofL_size l

theorem new_below (w : World) (o : Obj) : Below w.heap.size w (w.alloc o) := (Below.refl _ w).alloc (Nat.le_refl _) _
theorem not_text {W : World} {n : Nat} {s : ByteArray} {x : Int} {t : TypeId} {a : Addr} {y : UInt8} (hr : W.heap[n]? = some (.cells #[.string s, .int .i64 x] t (0, 0))) (hc : W.cell? a = some (byteV y)) : a.block ≠ n := fun e => by
  unfold World.cell? at hc
  rw [e, hr] at hc
  simp only at hc
  split at hc
  · cases hc
  · rcases ho : a.off with _ | _ | k
    · rw [ho] at hc; simp [byteV] at hc
    · rw [ho] at hc; simp [byteV] at hc
    · rw [ho] at hc; simp at hc
theorem isR_store {W : World} {b n e : Nat} {l : List UInt8} {s : ByteArray} {x : Int} {t : TypeId} (h : IsR W b l e) (hr : W.heap[n]? = some (.cells #[.string s, .int .i64 x] t (0, 0))) (hn : b ≠ n) (v0 v1 : Value) :
    IsR ((W.setCell ⟨n, 0, none⟩ v0).setCell ⟨n, 1, none⟩ v1) b l e := by
  obtain ⟨A, c, h1, h2, h3⟩ := h
  refine ⟨A, c, (heap_setCell_other _ _ _ _ (by simpa using hn)).trans ((heap_setCell_other _ _ _ _ (by simpa using hn)).trans h1), h2, fun k y hy => ?_⟩
  obtain ⟨ad, e', hb, hc⟩ := h3 k y hy
  have hne := not_text hr hc
  refine ⟨ad, e', hb, ?_⟩
  rw [World.cell?_setCell_other (h := fun e => hne (by rw [← e])), World.cell?_setCell_other (h := fun e => hne (by rw [← e]))]
  exact hc
theorem keepD {wd W W2 : World} {bR b6 e1 : Nat} {m1 : List UInt8} {s1 : ByteArray} (h : IsR W bR m1 e1 ∧ W.cell? ⟨b6, 0, none⟩ = some (.string s1) ∧ W.cell? ⟨b6, 1, none⟩ = some (.int .i64 (e1 : Nat)) ∧ Below wd.heap.size wd W) (hb : Below W.heap.size W W2) : IsR W2 bR m1 e1 ∧ W2.cell? ⟨b6, 0, none⟩ = some (.string s1) ∧ W2.cell? ⟨b6, 1, none⟩ = some (.int .i64 (e1 : Nat)) ∧ Below wd.heap.size wd W2 :=
  ⟨h.1.keep (hb.mono h.1.lt), (hb.cell (cell_lt h.2.1)).trans h.2.1, (hb.cell (cell_lt h.2.2.1)).trans h.2.2.1, h.2.2.2.trans (hb.mono h.2.2.2.size)⟩
theorem readT_len (l : List UInt8) (e m : Nat) : (readT l e m).2.1.length ≤ l.length := by
  have h := readN_len2 l e m
  unfold readT textOf
  generalize readN l e m = r at h
  split
  · exact h
  · split
    · exact h
    · rw [List.length_drop]; omega
theorem readS_len (l : List UInt8) (e : Nat) : (readS l e).2.1.length ≤ l.length := by
  unfold readS
  split
  · exact Nat.le_refl _
  · split
    · exact Nat.le_refl _
    · rw [List.length_drop]; omega
theorem isR_store2 {W : World} {b n e : Nat} {l : List UInt8} (h : IsR W b l e) (hn : b < n) (v0 v1 : Value) : IsR ((W.setCell ⟨n, 0, none⟩ v0).setCell ⟨n, 1, none⟩ v1) b l e := by
  obtain ⟨A, c, h1, h2, h3⟩ := h
  refine ⟨A, c, (heap_setCell_other _ _ _ _ (by simp; omega)).trans ((heap_setCell_other _ _ _ _ (by simp; omega)).trans h1), h2, fun k y hy => ?_⟩
  obtain ⟨ad, e', hb, hc⟩ := h3 k y hy
  have hne : ∀ j : Nat, (⟨n, j, none⟩ : Addr) ≠ ad.add k := fun j e => by
    have h9 := congrArg Addr.block e
    rw [add_block] at h9
    simp only at h9
    omega
  refine ⟨ad, e', hb, ?_⟩
  rw [World.cell?_setCell_other (h := hne 1), World.cell?_setCell_other (h := hne 0)]
  exact hc
theorem zrow {w wa : World} {o : Obj} (hb : Below (w.alloc o).drew.heap.size (w.alloc o).drew wa) : wa.heap[w.heap.size]? = some o :=
  (hb.block _ (by simp)).trans (World.alloc_heap_new w o)
theorem drew_below {w wa : World} (hb : Below w.drew.heap.size w.drew wa) : Below w.heap.size w wa := ⟨hb.os, hb.tape, hb.output, hb.size, hb.block⟩
theorem keepX {w1 wa : World} {V : Value} {sl : ByteArray} (KC : Hid (∀ W : World, Below w1.heap.size w1 W → (convert 22 9 V).run Try.prog W = .ok (.string sl) W)) (hb : Below w1.drew.heap.size w1.drew wa) (o : Obj) :
    Below w1.heap.size w1 (wa.alloc o) ∧ (convert 22 9 V).run Try.prog (wa.alloc o) = .ok (.string sl) (wa.alloc o) :=
  ⟨(drew_below hb).alloc (drew_below hb).size _, KC.out _ ((drew_below hb).alloc (drew_below hb).size _)⟩
theorem keepT {w1 W : World} {V : Value} {sl : ByteArray} (KC : Hid (∀ W : World, Below w1.heap.size w1 W → (convert 22 9 V).run Try.prog W = .ok (.string sl) W)) (h : Below w1.heap.size w1 W ∧ (convert 22 9 V).run Try.prog W = .ok (.string sl) W) (u v : Value) :
    Below w1.heap.size w1 ((W.setCell ⟨w1.heap.size, 0, none⟩ u).setCell ⟨w1.heap.size, 1, none⟩ v) ∧ (convert 22 9 V).run Try.prog ((W.setCell ⟨w1.heap.size, 0, none⟩ u).setCell ⟨w1.heap.size, 1, none⟩ v) = .ok (.string sl) ((W.setCell ⟨w1.heap.size, 0, none⟩ u).setCell ⟨w1.heap.size, 1, none⟩ v) :=
  ⟨(h.1.setCell (p := ⟨w1.heap.size, 0, none⟩) (Nat.le_refl _) u).setCell (p := ⟨w1.heap.size, 1, none⟩) (Nat.le_refl _) v, KC.out _ ((h.1.setCell (p := ⟨w1.heap.size, 0, none⟩) (Nat.le_refl _) u).setCell (p := ⟨w1.heap.size, 1, none⟩) (Nat.le_refl _) v)⟩
theorem keepV {w1 W W2 : World} {V : Value} {sl : ByteArray} (KC : Hid (∀ W : World, Below w1.heap.size w1 W → (convert 22 9 V).run Try.prog W = .ok (.string sl) W)) (h : Below w1.heap.size w1 W ∧ (convert 22 9 V).run Try.prog W = .ok (.string sl) W) (hb : Below W.heap.size W W2) :
    Below w1.heap.size w1 W2 ∧ (convert 22 9 V).run Try.prog W2 = .ok (.string sl) W2 :=
  ⟨h.1.trans (hb.mono h.1.size), KC.out _ (h.1.trans (hb.mono h.1.size))⟩

set_option maxHeartbeats 8000000 in
theorem reads_in (A : Option Addr) (l : List UInt8) (c : Nat) (D : Option Addr) (cs : List Ac) (d : Nat) (w : World) (hR : RdB w w.heap.size A l) (hc : Caps A l.length c) (hA : RdA w w.heap.size D cs) (hf : ∀ a ∈ cs, a.fits ∧ a.K ≤ 9223372036854775807) (hfew : fewL cs = true) (hl : l.length ≤ 400) :
    Calls Try.prog 7 #[.slice A l.length c, .slice D cs.length d] w fun e w' => e = .returned (.bool true) ∧ Below w.heap.size w w' := by
  have hF := few_any D cs d w hA
  rw [hfew] at hF
  have hli : ¬ (400 : Int) < l.length := by omega
  go_enter Try.func7, Try.ntmps7
  go_wp2_with fail
  refine hF.mono ?_
  rintro e w1 ⟨rfl, rfl⟩
  have hcl := hc.1
  have KC := hide (fun (W : World) (h : Below w1.heap.size w1 W) => conv_any (hR.below h (Nat.le_refl _)) c)
  have KR := hide (fun (W : World) (h : Below w1.heap.size w1 W) => read_any A l c W ((hR.below h (Nat.le_refl _)).mono h.size) hc (by omega))
  have hd0 : Below w1.heap.size w1 w1.drew := ⟨rfl, rfl, rfl, Nat.le_refl _, fun _ _ => rfl⟩
  have hd1 := KC.out _ hd0
  obtain ⟨V, hV⟩ : ∃ V, V = Value.slice A l.length c := ⟨_, rfl⟩
  rw [← hV] at KC KR hd1
  obtain ⟨sl, hsl⟩ : ∃ sl, sl = ofL l := ⟨_, rfl⟩
  rw [← hsl] at KC hd1
  have HSL := hide hsl
  clear hF hsl
  go_wp2_with fail
  rw [← hV]
  clear hV
  refine Code.wp_mono (Q := fun e a' W => e = .normal ∧ ∃ (bR b6 : Nat) (v19 v20 v21 : Value), a' = { tmps := #[V, .slice D cs.length d, undef, undef, .bool false, .pointer (some ⟨bR, 0, none⟩), .pointer (some ⟨b6, 0, none⟩), undef, undef, undef, undef, undef, undef, .slice D cs.length d, .bool true, .bool false, .bool false, V, .int .i64 l.length, v19, v20, v21, V, .pointer (some ⟨bR, 0, none⟩), V, .string sl, .agg #[.string sl, .int .i64 0], undef, undef, undef, undef, undef, undef, undef, undef, undef, undef, undef, undef, undef, undef, undef, undef, undef, undef, undef, undef, undef, undef, undef, undef, undef, undef, undef, undef, undef, undef, undef, undef, undef, undef, undef, undef, undef, undef, undef, undef, undef, undef, undef, undef, undef, undef, undef, undef, undef, undef, undef, undef, undef, undef, undef, undef, undef, undef, undef, undef, undef, undef, undef, undef, undef, undef, undef, undef, undef, undef, undef, undef, undef, undef, undef, undef, undef, undef, undef, undef, undef, undef, undef, undef, undef, undef, undef, undef, undef, undef, undef, undef, undef, undef, undef, undef, undef, undef, undef, undef, undef, undef], defers := [] } ∧
      IsR W bR l 0 ∧ W.heap[b6]? = some (.cells #[.string sl, .int .i64 0] 49 (0, 0)) ∧ bR ≠ b6 ∧ w1.heap.size ≤ bR ∧ w1.heap.size ≤ b6 ∧ Below w1.heap.size w1 W) ?cont ?reg
  case reg =>
    refine wp_region_noPanic ?_
    go_region_held (fun w' => Below w1.heap.size w1 w' ∧ (convert 22 9 V).run Try.prog w' = .ok (.string sl) w')
      (first
        | assumption
        | exact ⟨hd0, hd1⟩
        | exact keepV KC (by assumption) hba
        | exact keepV KC (by assumption) (new_below _ _)
        | exact keepX KC hba _
        | exact keepX KC (Below.refl _ _) _
        | exact keepT KC (by assumption) _ _)
      (first
        | (go_at_call 20; refine (KR.out _ (And.left (by assumption))).mono ?_; rintro e wa ⟨⟨bR, rfl, hI, hbR⟩, hba⟩
           (try have k0 := zrow hba)
           (try have c0 : wa.cell? ⟨w1.heap.size, 0, none⟩ = some (.string ⟨#[]⟩) := cell_of_row _ _ _ _ _ _ k0)
           (try have c1 : wa.cell? ⟨w1.heap.size, 1, none⟩ = some (.int .i64 0) := cell_of_row _ _ _ _ _ _ k0)
           (try have z0 : wa.frozen? ⟨w1.heap.size, 0, none⟩ = false := frozen_of_row _ _ _ _ _ k0)
           (try have z1 : wa.frozen? ⟨w1.heap.size, 1, none⟩ = false := frozen_of_row _ _ _ _ _ k0)))
    all_goals
      rename_i hH2
      refine NoPanic.normal ?_
      refine ⟨rfl, bR, _, _, _, _, rfl, ?_⟩
      first
        | exact ⟨hI.keep (((Below.refl _ wa).alloc (Nat.le_refl _) _).mono hI.lt), World.alloc_heap_new wa _, Nat.ne_of_lt hI.lt, hbR, (drew_below hba).size, hH2.1⟩
        | exact ⟨isR_store hI k0 (by have h9 : (w1.alloc (.cells #[.string ⟨#[]⟩, .int .i64 0] 49)).heap.size ≤ bR := hbR; rw [World.size_alloc] at h9; omega) _ _, heap_setCell_same _ w1.heap.size 1 _ _ _ (heap_setCell_same _ w1.heap.size 0 _ _ _ k0),
            by have h9 : (w1.alloc (.cells #[.string ⟨#[]⟩, .int .i64 0] 49)).heap.size ≤ bR := hbR; rw [World.size_alloc] at h9; omega,
            by have h9 : (w1.alloc (.cells #[.string ⟨#[]⟩, .int .i64 0] 49)).heap.size ≤ bR := hbR; rw [World.size_alloc] at h9; omega, Nat.le_refl _, hH2.1⟩
  case cont =>
    rintro e a' W ⟨rfl, bR, b6, v19, v20, v21, rfl, hI, h6, hne, hbR, hb6, hB⟩
    have HI0 := hide (show IsR W bR l 0 ∧ W.heap[b6]? = some (.cells #[.string (refS l 0), .int .i64 ((0 : Nat) : Int)] 49 (0, 0)) ∧ Below w1.heap.size w1 W ∧ l.length ≤ 400 from ⟨hI, by rw [HSL.out] at h6; exact h6, hB, hl⟩)
    have hnn : (cs.length : Int) ≤ 40 := by have := (few_le hfew).1; omega
    have HNE := hide (And.intro hne (And.intro hbR hb6))
    clear hI h6 hB hd0 hd1 KC KR hcl hne hbR hb6 hfew hR hc HSL
    go_wp2_with fail
    go_loopw [7] (fun i wr => ∃ (k : Nat) (m : List UInt8) (e : Nat), k ≤ cs.length ∧ i = .int .i64 k ∧ Hid (IsR wr bR m e ∧ wr.heap[b6]? = some (.cells #[.string (refS m e), .int .i64 (e : Nat)] 49 (0, 0)) ∧ Below w1.heap.size w1 wr ∧ m.length ≤ 400)) (fun i _ => cs.length - (intOf i).toNat)
    case atStart => exact ⟨0, l, 0, Nat.zero_le _, rfl, HI0⟩
    case round =>
      clear HI0
      obtain ⟨k, m, e, hk, rfl, HT⟩ := hrel
      by_cases hlt : (k : Int) < cs.length
      · have hkl : k < cs.length := by omega
        obtain ⟨hI, h6, hB, hm⟩ := HT.out
        have HM := hide hm
        obtain ⟨ad, rfl, hb, hc0⟩ := hA k cs[k] (List.getElem?_eq_getElem hkl)
        have hfk := hf cs[k] (List.getElem_mem hkl)
        have hcb : ∀ j : Nat, (((ad.add (k * 5)).add j).block) < w1.heap.size := fun j => by rw [add_block, add_block]; exact hb
        have HC := hide (fun (W : World) (hb : Below w1.heap.size w1 W) (j : Nat) (v : Value) (hv : cs[k].cells[j]? = some v) => (hb.cell (hcb j)).trans (hc0 j v hv))
        generalize cs[k] = a at HC hfk
        have HFK := hide hfk
        clear hc0 hcb hfk hb HT hm
        have q0 : wr.cell? (ad.add (k * 5)) = some (.int .i64 a.kind) := HC.out _ hB 0 _ rfl
        have q1 : wr.cell? ⟨(ad.add (k * 5)).block, (ad.add (k * 5)).off + 1, none⟩ = some (.int .u64 (a.N : Nat)) := HC.out _ hB 1 _ rfl
        have q2 : wr.cell? ⟨(ad.add (k * 5)).block, (ad.add (k * 5)).off + 2, none⟩ = some (.int .u64 (a.M : Nat)) := HC.out _ hB 2 _ rfl
        have q3 : wr.cell? ⟨(ad.add (k * 5)).block, (ad.add (k * 5)).off + 3, none⟩ = some (.int .i64 a.K) := HC.out _ hB 3 _ rfl
        have q4 : wr.cell? ⟨(ad.add (k * 5)).block, (ad.add (k * 5)).off + 4, none⟩ = some (.string a.S) := HC.out _ hB 4 _ rfl
        have hcl : a.cells = #[.int .i64 a.kind, .int .u64 (a.N : Nat), .int .u64 (a.M : Nat), .int .i64 a.K, .string a.S] := rfl
        by_cases hk0 : a.kind = 0
        · have hkb : (a.kind == 0) = true := by rw [hk0]; rfl
          have HRD := hide (show ∃ r, r = readN m e a.M from ⟨_, rfl⟩)
          obtain ⟨r, hr⟩ := HRD.out
          have HG := hide (fun W : World => (show Calls Try.prog 21 #[.agg #[.string (refS m e), .int .i64 (e : Nat)], .int .u64 (a.M : Nat)] W fun en w' => en = .returned (.tuple #[.agg #[.string (refS r.2.1 r.2.2), .int .i64 (r.2.2 : Nat)], .int .u64 (r.1 : Nat)]) ∧ Below W.heap.size W w' from by
            rw [hr]; exact get_any m e a.M W (by have := HM.out; omega)))
          have HN := hide (fun (W : World) (hi : IsR W bR m e) => (show Calls Try.prog 22 #[.pointer (some ⟨bR, 0, none⟩), .int .u64 (a.M : Nat)] W fun en w' => en = .returned (.int .u64 (r.1 : Nat)) ∧ IsR w' bR r.2.1 r.2.2 ∧ W.grownBy w' (some bR) ∧ Below bR W w' from by
            rw [hr]; exact readNum_any bR a.M e m W hi (by have := HM.out; omega)))
          have hlen : r.2.1.length ≤ m.length := by rw [hr]; exact readN_len2 m e a.M
          obtain ⟨x1, m1, e1⟩ := r
          simp only at HG HN hlen
          have HL1 := hide (show m1.length ≤ 400 by have := HM.out; omega)
          clear hr hlen HRD
          obtain ⟨s0, hs0⟩ : ∃ s0, s0 = refS m e := ⟨_, rfl⟩
          obtain ⟨s1, hs1⟩ : ∃ s1, s1 = refS m1 e1 := ⟨_, rfl⟩
          rw [← hs0] at HG h6
          rw [← hs1] at HG
          have HS1 := hide hs1
          clear hs0 hs1
          have c0 : wr.cell? ⟨b6, 0, none⟩ = some (.string s0) := cell_of_row _ _ _ _ _ _ h6
          have c1 : wr.cell? ⟨b6, 1, none⟩ = some (.int .i64 (e : Nat)) := cell_of_row _ _ _ _ _ _ h6
          clear hk0
          go_wp2_with fail
          go_region_with (with_reducible refine (HG.out _).mono ?_; rintro en wb ⟨rfl, hbb⟩; have k6 := (hbb.block _ (Array.getElem?_eq_some_iff.1 h6).1).trans h6; have d0 : wb.cell? ⟨b6, 0, none⟩ = some (.string s0) := cell_of_row _ _ _ _ _ _ k6; have d1 : wb.cell? ⟨b6, 1, none⟩ = some (.int .i64 (e : Nat)) := cell_of_row _ _ _ _ _ _ k6; have z0 : wb.frozen? ⟨b6, 0, none⟩ = false := frozen_of_row _ _ _ _ _ k6; have z1 : wb.frozen? ⟨b6, 1, none⟩ = false := frozen_of_row _ _ _ _ _ k6)
          all_goals
            have hbb' := drew_below hbb
            have hBb := hB.trans (hbb'.mono hB.size)
            have hIb := hI.keep (hbb'.mono hI.lt)
            have hIc := isR_store hIb k6 HNE.out.1 (.string s1) (.int .i64 (e1 : Nat))
            have k7 := heap_setCell_same _ b6 1 _ _ (.int .i64 (e1 : Nat)) (heap_setCell_same wb b6 0 _ _ (.string s1) k6)
            have hBc := (hBb.setCell (p := ⟨b6, 0, none⟩) HNE.out.2.2 (.string s1)).setCell (p := ⟨b6, 1, none⟩) HNE.out.2.2 (.int .i64 (e1 : Nat))
            generalize ((wb.setCell ⟨b6, 0, none⟩ (.string s1)).setCell ⟨b6, 1, none⟩ (.int .i64 (e1 : Nat))) = wc at hIc k7 hBc ⊢
            clear hbb hbb' hBb hIb k6 d0 d1 z0 z1 c0 c1 q0 q1 q2 q3 q4 h6 hI hB HG
            have q0 : wc.cell? (ad.add (k * 5)) = some (.int .i64 a.kind) := HC.out _ hBc 0 _ rfl
            have q1 : wc.cell? ⟨(ad.add (k * 5)).block, (ad.add (k * 5)).off + 1, none⟩ = some (.int .u64 (a.N : Nat)) := HC.out _ hBc 1 _ rfl
            have q2 : wc.cell? ⟨(ad.add (k * 5)).block, (ad.add (k * 5)).off + 2, none⟩ = some (.int .u64 (a.M : Nat)) := HC.out _ hBc 2 _ rfl
            have q3 : wc.cell? ⟨(ad.add (k * 5)).block, (ad.add (k * 5)).off + 3, none⟩ = some (.int .i64 a.K) := HC.out _ hBc 3 _ rfl
            have q4 : wc.cell? ⟨(ad.add (k * 5)).block, (ad.add (k * 5)).off + 4, none⟩ = some (.string a.S) := HC.out _ hBc 4 _ rfl
            have HW1 := hide (And.intro k7 hBc)
            have HN1 := hide (HN.out wc hIc)
            clear k7 hBc hIc HN
            go_wp2_with fail
            refine HN1.out.mono ?_
            rintro en wd ⟨rfl, hId, hgd, hbd⟩
            obtain ⟨k7, hBc⟩ := HW1.out
            have k8 := (hgd.block b6 (Array.getElem?_eq_some_iff.1 k7).1 (fun e9 => HNE.out.1 (by cases e9; rfl))).trans k7
            have hBd := hBc.grown hgd hBc.size (fun r e9 => by cases e9; exact HNE.out.2.1)
            clear hgd hbd k7 hBc HW1 HN1 q0 q1 q2 q3 q4
            have k8 : wd.heap[b6]? = some (.cells #[.string s1, .int .i64 (e1 : Nat)] 49 (0, 0)) := k8
            have hsz1 : s1.size = leftN e1 m1 := by rw [HS1.out]; exact refS_size m1 e1
            have HLf := hide (fun (W : World) (hi : IsR W bR m1 e1) => left_any bR e1 m1 W hi)
            have HEn := hide (fun (W : World) (hi : IsR W bR m1 e1) => end_any bR e1 m1 W hi (by have := HL1.out; omega))
            have HRe := hide (fun (W : World) => (show Calls Try.prog 31 #[.agg #[.string s1, .int .i64 (e1 : Nat)]] W fun en w' => en = .returned (.int .i64 ((endN e1 m1 : Nat) : Int)) ∧ Below W.heap.size W w' from by
              rw [HS1.out]; exact refEnd_any m1 e1 W))
            obtain ⟨LL, hLL⟩ : ∃ LL, LL = leftN e1 m1 := ⟨_, rfl⟩
            obtain ⟨EE, hEE⟩ : ∃ EE, EE = endN e1 m1 := ⟨_, rfl⟩
            rw [← hLL] at HLf hsz1
            rw [← hEE] at HEn HRe
            have E24 : ((LL : Int) != (s1.size : Int)) = false := by rw [hsz1]; simp
            have HSt := hide (And.intro k8 hBd)
            have hdx : IsR wd.drew bR m1 e1 ∧ wd.drew.cell? ⟨b6, 0, none⟩ = some (.string s1) ∧ wd.drew.cell? ⟨b6, 1, none⟩ = some (.int .i64 (e1 : Nat)) ∧ Below wd.heap.size wd wd.drew := ⟨hId.keep ⟨rfl, rfl, rfl, Nat.le_refl _, fun _ _ => rfl⟩, cell_of_row _ _ _ _ _ _ k8, cell_of_row _ _ _ _ _ _ k8, ⟨rfl, rfl, rfl, Nat.le_refl _, fun _ _ => rfl⟩⟩
            clear hLL hEE hsz1 k8 hBd hId
            go_wp2_with fail
            go_region_held3 (fun w' => IsR w' bR m1 e1 ∧ w'.cell? ⟨b6, 0, none⟩ = some (.string s1) ∧ w'.cell? ⟨b6, 1, none⟩ = some (.int .i64 (e1 : Nat)) ∧ Below wd.heap.size wd w')
              (first
                | assumption
                | exact hdx
                | exact keepD (by assumption) hbk)
              (first
                | (go_at_call 29; with_reducible refine (HLf.out _ (And.left (by assumption))).mono ?_; rintro en wk ⟨rfl, rfl⟩)
                | (go_at_call 30; with_reducible refine (HEn.out _ (And.left (by assumption))).mono ?_; rintro en wk ⟨rfl, rfl⟩)
                | (go_at_call 31; with_reducible refine (HRe.out _).mono ?_; rintro en wk ⟨rfl, hbk⟩))
            all_goals
              rename_i hH2
              have HF := hide hH2
              clear hH2
              go_wp2_with fail
              go_roundw
              case rel =>
                obtain ⟨j1, _, _, j4⟩ := HF.out
                obtain ⟨k8, hBd⟩ := HSt.out
                exact ⟨k + 1, m1, e1, hkl, rfl, hide ⟨j1, by rw [← HS1.out]; exact (j4.block _ (Array.getElem?_eq_some_iff.1 k8).1).trans k8, hBd.trans (j4.mono hBd.size), HL1.out⟩⟩
              case measure => simp [intOf]; omega
        have hkb0 : (a.kind == 0) = false := by rw [beq_eq_false_iff_ne]; exact hk0
        by_cases hk1 : a.kind = 1
        · have hkb : (a.kind == 1) = true := by rw [hk1]; rfl
          have HRD := hide (show ∃ r, r = readN m e a.K.toNat from ⟨_, rfl⟩)
          obtain ⟨r, hr⟩ := HRD.out
          have HG := hide (fun W : World => (show Calls Try.prog 23 #[.agg #[.string (refS m e), .int .i64 (e : Nat)], .int .i64 a.K] W fun en w' => en = .returned (.tuple #[.agg #[.string (refS r.2.1 r.2.2), .int .i64 (r.2.2 : Nat)], .int .i64 (r.1 : Nat)]) ∧ Below W.heap.size W w' from by
            rw [hr]; exact getInt_any m e a.K W (by have := HM.out; omega) HFK.out.2))
          have HN := hide (fun (W : World) (hi : IsR W bR m e) => (show Calls Try.prog 24 #[.pointer (some ⟨bR, 0, none⟩), .int .i64 a.K] W fun en w' => en = .returned (.int .i64 (r.1 : Nat)) ∧ IsR w' bR r.2.1 r.2.2 ∧ W.grownBy w' (some bR) ∧ Below bR W w' from by
            rw [hr]; exact readInt_any bR e a.K m W hi (by have := HM.out; omega) HFK.out.2))
          have hlen : r.2.1.length ≤ m.length := by rw [hr]; exact readN_len2 m e _
          obtain ⟨x1, m1, e1⟩ := r
          simp only at HG HN hlen
          have HL1 := hide (show m1.length ≤ 400 by have := HM.out; omega)
          clear hr hlen HRD
          obtain ⟨s0, hs0⟩ : ∃ s0, s0 = refS m e := ⟨_, rfl⟩
          obtain ⟨s1, hs1⟩ : ∃ s1, s1 = refS m1 e1 := ⟨_, rfl⟩
          rw [← hs0] at HG h6
          rw [← hs1] at HG
          have HS1 := hide hs1
          clear hs0 hs1
          have c0 : wr.cell? ⟨b6, 0, none⟩ = some (.string s0) := cell_of_row _ _ _ _ _ _ h6
          have c1 : wr.cell? ⟨b6, 1, none⟩ = some (.int .i64 (e : Nat)) := cell_of_row _ _ _ _ _ _ h6
          clear hk1
          go_wp2_with fail
          go_region_with (with_reducible refine (HG.out _).mono ?_; rintro en wb ⟨rfl, hbb⟩; have k6 := (hbb.block _ (Array.getElem?_eq_some_iff.1 h6).1).trans h6; have d0 : wb.cell? ⟨b6, 0, none⟩ = some (.string s0) := cell_of_row _ _ _ _ _ _ k6; have d1 : wb.cell? ⟨b6, 1, none⟩ = some (.int .i64 (e : Nat)) := cell_of_row _ _ _ _ _ _ k6; have z0 : wb.frozen? ⟨b6, 0, none⟩ = false := frozen_of_row _ _ _ _ _ k6; have z1 : wb.frozen? ⟨b6, 1, none⟩ = false := frozen_of_row _ _ _ _ _ k6)
          all_goals
            have hbb' := drew_below hbb
            have hBb := hB.trans (hbb'.mono hB.size)
            have hIb := hI.keep (hbb'.mono hI.lt)
            have hIc := isR_store hIb k6 HNE.out.1 (.string s1) (.int .i64 (e1 : Nat))
            have k7 := heap_setCell_same _ b6 1 _ _ (.int .i64 (e1 : Nat)) (heap_setCell_same wb b6 0 _ _ (.string s1) k6)
            have hBc := (hBb.setCell (p := ⟨b6, 0, none⟩) HNE.out.2.2 (.string s1)).setCell (p := ⟨b6, 1, none⟩) HNE.out.2.2 (.int .i64 (e1 : Nat))
            generalize ((wb.setCell ⟨b6, 0, none⟩ (.string s1)).setCell ⟨b6, 1, none⟩ (.int .i64 (e1 : Nat))) = wc at hIc k7 hBc ⊢
            clear hbb hbb' hBb hIb k6 d0 d1 z0 z1 c0 c1 q0 q1 q2 q3 q4 h6 hI hB HG
            have q0 : wc.cell? (ad.add (k * 5)) = some (.int .i64 a.kind) := HC.out _ hBc 0 _ rfl
            have q1 : wc.cell? ⟨(ad.add (k * 5)).block, (ad.add (k * 5)).off + 1, none⟩ = some (.int .u64 (a.N : Nat)) := HC.out _ hBc 1 _ rfl
            have q2 : wc.cell? ⟨(ad.add (k * 5)).block, (ad.add (k * 5)).off + 2, none⟩ = some (.int .u64 (a.M : Nat)) := HC.out _ hBc 2 _ rfl
            have q3 : wc.cell? ⟨(ad.add (k * 5)).block, (ad.add (k * 5)).off + 3, none⟩ = some (.int .i64 a.K) := HC.out _ hBc 3 _ rfl
            have q4 : wc.cell? ⟨(ad.add (k * 5)).block, (ad.add (k * 5)).off + 4, none⟩ = some (.string a.S) := HC.out _ hBc 4 _ rfl
            have HW1 := hide (And.intro k7 hBc)
            have HN1 := hide (HN.out wc hIc)
            clear k7 hBc hIc HN
            go_wp2_with fail
            refine HN1.out.mono ?_
            rintro en wd ⟨rfl, hId, hgd, hbd⟩
            obtain ⟨k7, hBc⟩ := HW1.out
            have k8 := (hgd.block b6 (Array.getElem?_eq_some_iff.1 k7).1 (fun e9 => HNE.out.1 (by cases e9; rfl))).trans k7
            have hBd := hBc.grown hgd hBc.size (fun r e9 => by cases e9; exact HNE.out.2.1)
            clear hgd hbd k7 hBc HW1 HN1 q0 q1 q2 q3 q4
            have k8 : wd.heap[b6]? = some (.cells #[.string s1, .int .i64 (e1 : Nat)] 49 (0, 0)) := k8
            have hsz1 : s1.size = leftN e1 m1 := by rw [HS1.out]; exact refS_size m1 e1
            have HLf := hide (fun (W : World) (hi : IsR W bR m1 e1) => left_any bR e1 m1 W hi)
            have HEn := hide (fun (W : World) (hi : IsR W bR m1 e1) => end_any bR e1 m1 W hi (by have := HL1.out; omega))
            have HRe := hide (fun (W : World) => (show Calls Try.prog 31 #[.agg #[.string s1, .int .i64 (e1 : Nat)]] W fun en w' => en = .returned (.int .i64 ((endN e1 m1 : Nat) : Int)) ∧ Below W.heap.size W w' from by
              rw [HS1.out]; exact refEnd_any m1 e1 W))
            obtain ⟨LL, hLL⟩ : ∃ LL, LL = leftN e1 m1 := ⟨_, rfl⟩
            obtain ⟨EE, hEE⟩ : ∃ EE, EE = endN e1 m1 := ⟨_, rfl⟩
            rw [← hLL] at HLf hsz1
            rw [← hEE] at HEn HRe
            have E24 : ((LL : Int) != (s1.size : Int)) = false := by rw [hsz1]; simp
            have HSt := hide (And.intro k8 hBd)
            have hdx : IsR wd.drew bR m1 e1 ∧ wd.drew.cell? ⟨b6, 0, none⟩ = some (.string s1) ∧ wd.drew.cell? ⟨b6, 1, none⟩ = some (.int .i64 (e1 : Nat)) ∧ Below wd.heap.size wd wd.drew := ⟨hId.keep ⟨rfl, rfl, rfl, Nat.le_refl _, fun _ _ => rfl⟩, cell_of_row _ _ _ _ _ _ k8, cell_of_row _ _ _ _ _ _ k8, ⟨rfl, rfl, rfl, Nat.le_refl _, fun _ _ => rfl⟩⟩
            clear hLL hEE hsz1 k8 hBd hId
            go_wp2_with fail
            go_region_held3 (fun w' => IsR w' bR m1 e1 ∧ w'.cell? ⟨b6, 0, none⟩ = some (.string s1) ∧ w'.cell? ⟨b6, 1, none⟩ = some (.int .i64 (e1 : Nat)) ∧ Below wd.heap.size wd w')
              (first
                | assumption
                | exact hdx
                | exact keepD (by assumption) hbk)
              (first
                | (go_at_call 29; with_reducible refine (HLf.out _ (And.left (by assumption))).mono ?_; rintro en wk ⟨rfl, rfl⟩)
                | (go_at_call 30; with_reducible refine (HEn.out _ (And.left (by assumption))).mono ?_; rintro en wk ⟨rfl, rfl⟩)
                | (go_at_call 31; with_reducible refine (HRe.out _).mono ?_; rintro en wk ⟨rfl, hbk⟩))
            all_goals
              rename_i hH2
              have HF := hide hH2
              clear hH2
              go_wp2_with fail
              go_roundw
              case rel =>
                obtain ⟨j1, _, _, j4⟩ := HF.out
                obtain ⟨k8, hBd⟩ := HSt.out
                exact ⟨k + 1, m1, e1, hkl, rfl, hide ⟨j1, by rw [← HS1.out]; exact (j4.block _ (Array.getElem?_eq_some_iff.1 k8).1).trans k8, hBd.trans (j4.mono hBd.size), HL1.out⟩⟩
              case measure => simp [intOf]; omega
        have hkb1 : (a.kind == 1) = false := by rw [beq_eq_false_iff_ne]; exact hk1
        by_cases hk2 : a.kind = 2
        · have hkb : (a.kind == 2) = true := by rw [hk2]; rfl
          have HRD := hide (show ∃ r, r = readT m e a.K.toNat from ⟨_, rfl⟩)
          obtain ⟨r, hr⟩ := HRD.out
          have HG := hide (fun W : World => (show Calls Try.prog 25 #[.agg #[.string (refS m e), .int .i64 (e : Nat)], .int .i64 a.K] W fun en w' => en = .returned (.tuple #[.agg #[.string (refS r.2.1 r.2.2), .int .i64 (r.2.2 : Nat)], .string (ofL r.1)]) ∧ Below W.heap.size W w' from by
            rw [hr]; exact getText_any m e a.K W (by have := HM.out; omega) HFK.out.2))
          have HN := hide (fun (W : World) (hi : IsR W bR m e) => (show Calls Try.prog 26 #[.pointer (some ⟨bR, 0, none⟩), .int .i64 a.K] W fun en w' => en = .returned (.string (ofL r.1)) ∧ IsR w' bR r.2.1 r.2.2 ∧ W.grownBy w' (some bR) ∧ Below bR W w' from by
            rw [hr]; exact readText_any bR e a.K m W hi (by have := HM.out; omega) HFK.out.2))
          have hlen : r.2.1.length ≤ m.length := by rw [hr]; exact readT_len m e _
          obtain ⟨x1, m1, e1⟩ := r
          simp only at HG HN hlen
          have HL1 := hide (show m1.length ≤ 400 by have := HM.out; omega)
          clear hr hlen HRD
          obtain ⟨s0, hs0⟩ : ∃ s0, s0 = refS m e := ⟨_, rfl⟩
          obtain ⟨s1, hs1⟩ : ∃ s1, s1 = refS m1 e1 := ⟨_, rfl⟩
          rw [← hs0] at HG h6
          rw [← hs1] at HG
          have HS1 := hide hs1
          clear hs0 hs1
          have c0 : wr.cell? ⟨b6, 0, none⟩ = some (.string s0) := cell_of_row _ _ _ _ _ _ h6
          have c1 : wr.cell? ⟨b6, 1, none⟩ = some (.int .i64 (e : Nat)) := cell_of_row _ _ _ _ _ _ h6
          clear hk2
          go_wp2_with fail
          go_region_with (with_reducible refine (HG.out _).mono ?_; rintro en wb ⟨rfl, hbb⟩; have k6 := (hbb.block _ (Array.getElem?_eq_some_iff.1 h6).1).trans h6; have d0 : wb.cell? ⟨b6, 0, none⟩ = some (.string s0) := cell_of_row _ _ _ _ _ _ k6; have d1 : wb.cell? ⟨b6, 1, none⟩ = some (.int .i64 (e : Nat)) := cell_of_row _ _ _ _ _ _ k6; have z0 : wb.frozen? ⟨b6, 0, none⟩ = false := frozen_of_row _ _ _ _ _ k6; have z1 : wb.frozen? ⟨b6, 1, none⟩ = false := frozen_of_row _ _ _ _ _ k6)
          all_goals
            have hbb' := drew_below hbb
            have hBb := hB.trans (hbb'.mono hB.size)
            have hIb := hI.keep (hbb'.mono hI.lt)
            have hIc := isR_store hIb k6 HNE.out.1 (.string s1) (.int .i64 (e1 : Nat))
            have k7 := heap_setCell_same _ b6 1 _ _ (.int .i64 (e1 : Nat)) (heap_setCell_same wb b6 0 _ _ (.string s1) k6)
            have hBc := (hBb.setCell (p := ⟨b6, 0, none⟩) HNE.out.2.2 (.string s1)).setCell (p := ⟨b6, 1, none⟩) HNE.out.2.2 (.int .i64 (e1 : Nat))
            generalize ((wb.setCell ⟨b6, 0, none⟩ (.string s1)).setCell ⟨b6, 1, none⟩ (.int .i64 (e1 : Nat))) = wc at hIc k7 hBc ⊢
            clear hbb hbb' hBb hIb k6 d0 d1 z0 z1 c0 c1 q0 q1 q2 q3 q4 h6 hI hB HG
            have q0 : wc.cell? (ad.add (k * 5)) = some (.int .i64 a.kind) := HC.out _ hBc 0 _ rfl
            have q1 : wc.cell? ⟨(ad.add (k * 5)).block, (ad.add (k * 5)).off + 1, none⟩ = some (.int .u64 (a.N : Nat)) := HC.out _ hBc 1 _ rfl
            have q2 : wc.cell? ⟨(ad.add (k * 5)).block, (ad.add (k * 5)).off + 2, none⟩ = some (.int .u64 (a.M : Nat)) := HC.out _ hBc 2 _ rfl
            have q3 : wc.cell? ⟨(ad.add (k * 5)).block, (ad.add (k * 5)).off + 3, none⟩ = some (.int .i64 a.K) := HC.out _ hBc 3 _ rfl
            have q4 : wc.cell? ⟨(ad.add (k * 5)).block, (ad.add (k * 5)).off + 4, none⟩ = some (.string a.S) := HC.out _ hBc 4 _ rfl
            have HW1 := hide (And.intro k7 hBc)
            have HN1 := hide (HN.out wc hIc)
            clear k7 hBc hIc HN
            go_wp2_with fail
            refine HN1.out.mono ?_
            rintro en wd ⟨rfl, hId, hgd, hbd⟩
            obtain ⟨k7, hBc⟩ := HW1.out
            have k8 := (hgd.block b6 (Array.getElem?_eq_some_iff.1 k7).1 (fun e9 => HNE.out.1 (by cases e9; rfl))).trans k7
            have hBd := hBc.grown hgd hBc.size (fun r e9 => by cases e9; exact HNE.out.2.1)
            clear hgd hbd k7 hBc HW1 HN1 q0 q1 q2 q3 q4
            have k8 : wd.heap[b6]? = some (.cells #[.string s1, .int .i64 (e1 : Nat)] 49 (0, 0)) := k8
            have hsz1 : s1.size = leftN e1 m1 := by rw [HS1.out]; exact refS_size m1 e1
            have HLf := hide (fun (W : World) (hi : IsR W bR m1 e1) => left_any bR e1 m1 W hi)
            have HEn := hide (fun (W : World) (hi : IsR W bR m1 e1) => end_any bR e1 m1 W hi (by have := HL1.out; omega))
            have HRe := hide (fun (W : World) => (show Calls Try.prog 31 #[.agg #[.string s1, .int .i64 (e1 : Nat)]] W fun en w' => en = .returned (.int .i64 ((endN e1 m1 : Nat) : Int)) ∧ Below W.heap.size W w' from by
              rw [HS1.out]; exact refEnd_any m1 e1 W))
            obtain ⟨LL, hLL⟩ : ∃ LL, LL = leftN e1 m1 := ⟨_, rfl⟩
            obtain ⟨EE, hEE⟩ : ∃ EE, EE = endN e1 m1 := ⟨_, rfl⟩
            rw [← hLL] at HLf hsz1
            rw [← hEE] at HEn HRe
            have E24 : ((LL : Int) != (s1.size : Int)) = false := by rw [hsz1]; simp
            have HSt := hide (And.intro k8 hBd)
            have hdx : IsR wd.drew bR m1 e1 ∧ wd.drew.cell? ⟨b6, 0, none⟩ = some (.string s1) ∧ wd.drew.cell? ⟨b6, 1, none⟩ = some (.int .i64 (e1 : Nat)) ∧ Below wd.heap.size wd wd.drew := ⟨hId.keep ⟨rfl, rfl, rfl, Nat.le_refl _, fun _ _ => rfl⟩, cell_of_row _ _ _ _ _ _ k8, cell_of_row _ _ _ _ _ _ k8, ⟨rfl, rfl, rfl, Nat.le_refl _, fun _ _ => rfl⟩⟩
            clear hLL hEE hsz1 k8 hBd hId
            go_wp2_with fail
            go_region_held3 (fun w' => IsR w' bR m1 e1 ∧ w'.cell? ⟨b6, 0, none⟩ = some (.string s1) ∧ w'.cell? ⟨b6, 1, none⟩ = some (.int .i64 (e1 : Nat)) ∧ Below wd.heap.size wd w')
              (first
                | assumption
                | exact hdx
                | exact keepD (by assumption) hbk)
              (first
                | (go_at_call 29; with_reducible refine (HLf.out _ (And.left (by assumption))).mono ?_; rintro en wk ⟨rfl, rfl⟩)
                | (go_at_call 30; with_reducible refine (HEn.out _ (And.left (by assumption))).mono ?_; rintro en wk ⟨rfl, rfl⟩)
                | (go_at_call 31; with_reducible refine (HRe.out _).mono ?_; rintro en wk ⟨rfl, hbk⟩))
            all_goals
              rename_i hH2
              have HF := hide hH2
              clear hH2
              go_wp2_with fail
              go_roundw
              case rel =>
                obtain ⟨j1, _, _, j4⟩ := HF.out
                obtain ⟨k8, hBd⟩ := HSt.out
                exact ⟨k + 1, m1, e1, hkl, rfl, hide ⟨j1, by rw [← HS1.out]; exact (j4.block _ (Array.getElem?_eq_some_iff.1 k8).1).trans k8, hBd.trans (j4.mono hBd.size), HL1.out⟩⟩
              case measure => simp [intOf]; omega
        have hkb2 : (a.kind == 2) = false := by rw [beq_eq_false_iff_ne]; exact hk2
        clear hk0 hk1 hk2
        have HRD := hide (show ∃ r, r = readS m e from ⟨_, rfl⟩)
        obtain ⟨r, hr⟩ := HRD.out
        have HG := hide (fun W : World => (show Calls Try.prog 27 #[.agg #[.string (refS m e), .int .i64 (e : Nat)]] W fun en w' => en = .returned (.tuple #[.agg #[.string (refS r.2.1 r.2.2), .int .i64 (r.2.2 : Nat)], .agg #[.int .u64 (r.1.1 : Nat), .int .u64 (r.1.2 : Nat)]]) ∧ Below W.heap.size W w' from by
          rw [hr]; exact getSum_any m e W (by have := HM.out; omega)))
        have HN := hide (fun (W : World) (hi : IsR W bR m e) => (show Calls Try.prog 28 #[.pointer (some ⟨bR, 0, none⟩)] W fun en w' => en = .returned (.agg #[.int .u64 (r.1.1 : Nat), .int .u64 (r.1.2 : Nat)]) ∧ IsR w' bR r.2.1 r.2.2 ∧ W.grownBy w' (some bR) ∧ Below bR W w' from by
          rw [hr]; exact readSum_any bR e m W hi (by have := HM.out; omega)))
        have hlen : r.2.1.length ≤ m.length := by rw [hr]; exact readS_len m e
        obtain ⟨⟨p, q⟩, m1, e1⟩ := r
        simp only at HG HN hlen
        have HL1 := hide (show m1.length ≤ 400 by have := HM.out; omega)
        clear hr hlen HRD
        obtain ⟨s0, hs0⟩ : ∃ s0, s0 = refS m e := ⟨_, rfl⟩
        obtain ⟨s1, hs1⟩ : ∃ s1, s1 = refS m1 e1 := ⟨_, rfl⟩
        rw [← hs0] at HG h6
        rw [← hs1] at HG
        have HS1 := hide hs1
        clear hs0 hs1
        have l6 := (Array.getElem?_eq_some_iff.1 h6).1
        have lR := hI.lt
        have h6a : (wr.alloc (.cells #[.int .u64 0, .int .u64 0] 60)).heap[b6]? = _ := (Below.heap_alloc _ _ _ l6).trans h6
        have rg := World.alloc_heap_new wr (.cells #[.int .u64 0, .int .u64 0] 60)
        have c0 : (wr.alloc (.cells #[.int .u64 0, .int .u64 0] 60)).cell? ⟨b6, 0, none⟩ = some (.string s0) := cell_of_row _ _ _ _ _ _ h6a
        have c1 : (wr.alloc (.cells #[.int .u64 0, .int .u64 0] 60)).cell? ⟨b6, 1, none⟩ = some (.int .i64 (e : Nat)) := cell_of_row _ _ _ _ _ _ h6a
        have hBa := hB.alloc hB.size (.cells #[.int .u64 0, .int .u64 0] 60)
        have hIa := hI.keep (((Below.refl _ wr).alloc (Nat.le_refl _) (.cells #[.int .u64 0, .int .u64 0] 60)).mono lR)
        have hEq := fun W : World => sum_eql (p : Int) (q : Int) W
        go_wp2_with fail
        refine (HG.out _).mono ?_
        rintro en wb ⟨rfl, hbb⟩
        have k6 := (hbb.block _ (Array.getElem?_eq_some_iff.1 h6a).1).trans h6a
        have kg := (hbb.block _ (Array.getElem?_eq_some_iff.1 rg).1).trans rg
        have hBb := hBa.trans (hbb.mono hBa.size)
        have hIb := hIa.keep (hbb.mono hIa.lt)
        have d0 : wb.cell? ⟨b6, 0, none⟩ = some (.string s0) := cell_of_row _ _ _ _ _ _ k6
        have d1 : wb.cell? ⟨b6, 1, none⟩ = some (.int .i64 (e : Nat)) := cell_of_row _ _ _ _ _ _ k6
        have z0 : wb.frozen? ⟨b6, 0, none⟩ = false := frozen_of_row _ _ _ _ _ k6
        have z1 : wb.frozen? ⟨b6, 1, none⟩ = false := frozen_of_row _ _ _ _ _ k6
        have d2 : wb.cell? ⟨wr.heap.size, 0, none⟩ = some (.int .u64 0) := cell_of_row _ _ _ _ _ _ kg
        have d3 : wb.cell? ⟨wr.heap.size, 1, none⟩ = some (.int .u64 0) := cell_of_row _ _ _ _ _ _ kg
        have z2 : wb.frozen? ⟨wr.heap.size, 0, none⟩ = false := frozen_of_row _ _ _ _ _ kg
        have z3 : wb.frozen? ⟨wr.heap.size, 1, none⟩ = false := frozen_of_row _ _ _ _ _ kg
        have hgw : w1.heap.size ≤ wr.heap.size := hB.size
        have ne6 : b6 ≠ wr.heap.size := Nat.ne_of_lt l6
        have k7 := heap_setCell_same _ b6 1 _ _ (.int .i64 (e1 : Nat)) (heap_setCell_same wb b6 0 _ _ (.string s1) k6)
        have kh : ((wb.setCell ⟨b6, 0, none⟩ (.string s1)).setCell ⟨b6, 1, none⟩ (.int .i64 (e1 : Nat))).heap[wr.heap.size]? = _ := (heap_setCell_other _ _ _ _ (by simpa using fun e9 => ne6 e9.symm)).trans ((heap_setCell_other _ _ _ _ (by simpa using fun e9 => ne6 e9.symm)).trans kg)
        have hBc := (hBb.setCell (p := ⟨b6, 0, none⟩) HNE.out.2.2 (.string s1)).setCell (p := ⟨b6, 1, none⟩) HNE.out.2.2 (.int .i64 (e1 : Nat))
        have hIc := isR_store hIb k6 HNE.out.1 (.string s1) (.int .i64 (e1 : Nat))
        have HWC := hide (And.intro k7 (And.intro kh (And.intro hBc hIc)))
        clear c0 c1 q0 q1 q2 q3 q4 h6 hI hB HG h6a rg hBa hIa hbb hBb hIb k7 kh hBc hIc k6 kg
        go_wp2_with fail
        obtain ⟨k7, kh, hBc, hIc⟩ := HWC.out
        generalize ((wb.setCell ⟨b6, 0, none⟩ (.string s1)).setCell ⟨b6, 1, none⟩ (.int .i64 (e1 : Nat))) = wx at k7 kh hBc hIc ⊢
        have kq := heap_setCell_same _ wr.heap.size 1 _ _ (.int .u64 (q : Nat)) (heap_setCell_same wx wr.heap.size 0 _ _ (.int .u64 (p : Nat)) kh)
        have k7' : ((wx.setCell ⟨wr.heap.size, 0, none⟩ (.int .u64 (p : Nat))).setCell ⟨wr.heap.size, 1, none⟩ (.int .u64 (q : Nat))).heap[b6]? = _ := (heap_setCell_other _ _ _ _ (by simpa using ne6)).trans ((heap_setCell_other _ _ _ _ (by simpa using ne6)).trans k7)
        have hBy := (hBc.setCell (p := ⟨wr.heap.size, 0, none⟩) hgw (.int .u64 (p : Nat))).setCell (p := ⟨wr.heap.size, 1, none⟩) hgw (.int .u64 (q : Nat))
        have hIy := isR_store2 hIc lR (.int .u64 (p : Nat)) (.int .u64 (q : Nat))
        generalize ((wx.setCell ⟨wr.heap.size, 0, none⟩ (.int .u64 (p : Nat))).setCell ⟨wr.heap.size, 1, none⟩ (.int .u64 (q : Nat))) = wc at kq k7' hBy hIy ⊢
        have kq : wc.heap[wr.heap.size]? = some (.cells #[.int .u64 (p : Nat), .int .u64 (q : Nat)] 60 (0, 0)) := kq
        have v0 : wc.cell? ⟨wr.heap.size, 0, none⟩ = some (.int .u64 (p : Nat)) := cell_of_row _ _ _ _ _ _ kq
        have v1 : wc.cell? ⟨wr.heap.size, 1, none⟩ = some (.int .u64 (q : Nat)) := cell_of_row _ _ _ _ _ _ kq
        have hIcd : IsR wc.drew bR m e := hIy.keep ⟨rfl, rfl, rfl, Nat.le_refl _, fun _ _ => rfl⟩
        have HN1 := hide (HN.out wc.drew hIcd)
        have neG : bR ≠ wr.heap.size := Nat.ne_of_lt lR
        clear d0 d1 d2 d3 z0 z1 z2 z3 k7 kh hBc hIc hIy hIcd HN HWC
        go_region_with (refine HN1.out.mono ?_; rintro en wd ⟨rfl, hId, hgd, hbd⟩; have kw : wd.heap[wr.heap.size]? = some (.cells #[.int .u64 (p : Nat), .int .u64 (q : Nat)] 60 (0, 0)) := (hgd.block _ (Array.getElem?_eq_some_iff.1 kq).1 (fun e9 => neG (Option.some.inj e9).symm)).trans kq; have x0 : wd.cell? ⟨wr.heap.size, 0, none⟩ = some (.int .u64 (p : Nat)) := cell_of_row _ _ _ _ _ _ kw; have x1 : wd.cell? ⟨wr.heap.size, 1, none⟩ = some (.int .u64 (q : Nat)) := cell_of_row _ _ _ _ _ _ kw)
        all_goals
          have k8 := (hgd.block b6 (Array.getElem?_eq_some_iff.1 k7').1 (fun e9 => HNE.out.1 (by cases e9; rfl))).trans k7'
          have hBd := (show Below w1.heap.size w1 wc.drew from ⟨hBy.os, hBy.tape, hBy.output, hBy.size, hBy.block⟩).grown hgd hBy.size (fun r e9 => by cases e9; exact HNE.out.2.1)
          clear hgd hbd kq k7' hBy HN1 v0 v1 kw x0 x1 hEq l6 lR ne6 neG hgw
          simp only [Act.put, List.getElem_toArray, List.getElem_cons_succ, List.getElem_cons_zero, List.setIfInBounds_toArray, List.set_cons_zero, List.set_cons_succ]
          have k8 : wd.heap[b6]? = some (.cells #[.string s1, .int .i64 (e1 : Nat)] 49 (0, 0)) := k8
          have hsz1 : s1.size = leftN e1 m1 := by rw [HS1.out]; exact refS_size m1 e1
          have HLf := hide (fun (W : World) (hi : IsR W bR m1 e1) => left_any bR e1 m1 W hi)
          have HEn := hide (fun (W : World) (hi : IsR W bR m1 e1) => end_any bR e1 m1 W hi (by have := HL1.out; omega))
          have HRe := hide (fun (W : World) => (show Calls Try.prog 31 #[.agg #[.string s1, .int .i64 (e1 : Nat)]] W fun en w' => en = .returned (.int .i64 ((endN e1 m1 : Nat) : Int)) ∧ Below W.heap.size W w' from by
            rw [HS1.out]; exact refEnd_any m1 e1 W))
          obtain ⟨LL, hLL⟩ : ∃ LL, LL = leftN e1 m1 := ⟨_, rfl⟩
          obtain ⟨EE, hEE⟩ : ∃ EE, EE = endN e1 m1 := ⟨_, rfl⟩
          rw [← hLL] at HLf hsz1
          rw [← hEE] at HEn HRe
          have E24 : ((LL : Int) != (s1.size : Int)) = false := by rw [hsz1]; simp
          have HSt := hide (And.intro k8 hBd)
          have hdx : IsR wd.drew bR m1 e1 ∧ wd.drew.cell? ⟨b6, 0, none⟩ = some (.string s1) ∧ wd.drew.cell? ⟨b6, 1, none⟩ = some (.int .i64 (e1 : Nat)) ∧ Below wd.heap.size wd wd.drew := ⟨hId.keep ⟨rfl, rfl, rfl, Nat.le_refl _, fun _ _ => rfl⟩, cell_of_row _ _ _ _ _ _ k8, cell_of_row _ _ _ _ _ _ k8, ⟨rfl, rfl, rfl, Nat.le_refl _, fun _ _ => rfl⟩⟩
          clear hLL hEE hsz1 k8 hBd hId
          go_wp2_with fail
          go_region_held3 (fun w' => IsR w' bR m1 e1 ∧ w'.cell? ⟨b6, 0, none⟩ = some (.string s1) ∧ w'.cell? ⟨b6, 1, none⟩ = some (.int .i64 (e1 : Nat)) ∧ Below wd.heap.size wd w')
            (first
              | assumption
              | exact hdx
              | exact keepD (by assumption) hbk)
            (first
              | (go_at_call 29; with_reducible refine (HLf.out _ (And.left (by assumption))).mono ?_; rintro en wk ⟨rfl, rfl⟩)
              | (go_at_call 30; with_reducible refine (HEn.out _ (And.left (by assumption))).mono ?_; rintro en wk ⟨rfl, rfl⟩)
              | (go_at_call 31; with_reducible refine (HRe.out _).mono ?_; rintro en wk ⟨rfl, hbk⟩))
          all_goals
            rename_i hH2
            have HF := hide hH2
            clear hH2
            go_wp2_with fail
            go_roundw
            case rel =>
              obtain ⟨j1, _, _, j4⟩ := HF.out
              obtain ⟨k8, hBd⟩ := HSt.out
              exact ⟨k + 1, m1, e1, hkl, rfl, hide ⟨j1, by rw [← HS1.out]; exact (j4.block _ (Array.getElem?_eq_some_iff.1 k8).1).trans k8, hBd.trans (j4.mono hBd.size), HL1.out⟩⟩
            case measure => simp [intOf]; omega
      · obtain rfl : k = cs.length := by omega
        have HF := hide HT.out.2.2.1
        clear HT
        go_wp2_with fail
        refine (awake_any _).mono ?_
        rintro e9 w9 ⟨rfl, hB9⟩
        have HF2 := hide (HF.out.trans (hB9.mono HF.out.size))
        clear hB9 HF
        go_wp2_with fail
        exact bodyPost_ret (results_tmp rfl _ _ _) rfl ⟨rfl, HF2.out⟩

set_option maxHeartbeats 4000000 in
theorem reads_law (A : Option Addr) (l : List UInt8) (c : Nat) (D : Option Addr) (cs : List Ac) (d : Nat) (w : World) (hR : RdB w w.heap.size A l) (hc : Caps A l.length c) (hA : RdA w w.heap.size D cs) (hf : ∀ a ∈ cs, a.fits ∧ a.K ≤ 9223372036854775807) :
    Calls Try.prog 7 #[.slice A l.length c, .slice D cs.length d] w fun e w' => e = .returned (.bool true) ∧ Below w.heap.size w w' := by
  have hF := few_any D cs d w hA
  cases hfew : fewL cs with
  | false =>
    rw [hfew] at hF
    go_enter Try.func7, Try.ntmps7
    go_wp2_with fail
    refine hF.mono ?_
    rintro e w1 ⟨rfl, rfl⟩
    go_wp2_with fail
    refine (awake_any _).mono ?_
    rintro e w9 ⟨rfl, hB9⟩
    go_wp2_with fail
    refine bodyPost_ret (results_tmp rfl _ _ _) rfl ⟨rfl, hB9⟩
  | true =>
  by_cases hl : l.length ≤ 400
  · exact reads_in A l c D cs d w hR hc hA hf hfew hl
  rw [hfew] at hF
  have h400 : (400 : Int) < l.length := by omega
  clear hR hc hA hf hfew hl
  go_enter Try.func7, Try.ntmps7
  go_wp2_with fail
  refine hF.mono ?_
  rintro e w1 ⟨rfl, rfl⟩
  go_wp2_with fail
  refine (awake_any _).mono ?_
  rintro e w9 ⟨rfl, hB9⟩
  go_wp2_with fail
  refine bodyPost_ret (results_tmp rfl _ _ _) rfl ⟨rfl, hB9⟩
end Go.Proofs.Ytpefcadlejcbbaa
