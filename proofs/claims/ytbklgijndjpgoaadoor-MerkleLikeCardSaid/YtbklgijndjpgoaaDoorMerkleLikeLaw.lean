/-
  MerkleLike, walked.
-/
import Derived.Test.YtbklgijndjpgoaaDoorMkRefLike
import Derived.Test.YtbklgijndjpgoaaDoorMkClash
import Derived.Test.YtbklgijndjpgoaaDoorMkAwake
import Derived.Test.YtbklgijndjpgoaaDoorMkSmall
namespace Go.Proofs.YtbklgijndjpgoaaDoor
open Go.RowKit
set_option maxRecDepth 100000

theorem prt_ok (p : ByteArray) (t : List Nd) : (prtL p t).2 = (topL p t).2 := by
  unfold prtL
  cases h : (topL p t).2 <;> simp
theorem prt_sum (p : ByteArray) (t : List Nd) (h : (topL p t).2 = true) : (prtL p t).1 = sumL (ndT t (topL p t).1) := by
  unfold prtL
  rw [if_pos h]
theorem text_top {a b : List Nd} {p : ByteArray} (h : (topL p a).2 = true) : ndT a (topL p a).1 ∈ textsL a b ∧ ndT b (topL p a).1 = ndT b (topL p a).1 := by
  refine ⟨?_, rfl⟩
  unfold textsL
  rcases top_cases p h with ⟨_, e⟩ | ⟨_, n, hn, e, _⟩
  · rw [e]
    have : ndT a rootNd = dirT a ⟨#[]⟩ := by unfold ndT rootNd; simp
    rw [this]; simp
  · rw [e]
    simp [List.mem_append]
    exact .inr (.inr (.inl ⟨n, hn, rfl⟩))
theorem text_top' {a b : List Nd} {p : ByteArray} (h : (topL p b).2 = true) : ndT b (topL p b).1 ∈ textsL a b := by
  unfold textsL
  rcases top_cases p h with ⟨_, e⟩ | ⟨_, n, hn, e, _⟩
  · rw [e]
    have : ndT b rootNd = dirT b ⟨#[]⟩ := by unfold ndT rootNd; simp
    rw [this]; simp
  · rw [e]
    simp [List.mem_append]
    exact .inr (.inr (.inr ⟨n, hn, rfl⟩))
/-- What isn't alike, of one kind and one sum: two unlike texts have one sum. -/
theorem clash_of {a b : List Nd} (ha : WF a) (hb : WF b) {p q : ByteArray} (h1 : (topL p a).2 = true) (h2 : (topL q b).2 = true) (h3 : (topL p a).1.kind = (topL q b).1.kind) (hs : (prtL p a).1 = (prtL q b).1) (hl : likeL a p b q = false) :
    ∃ x y, x ∈ textsL a b ∧ y ∈ textsL a b ∧ x ≠ y ∧ sumL x = sumL y := by
  rw [prt_sum p a h1, prt_sum q b h2] at hs
  apply Classical.byContradiction
  intro hno
  have all : ∀ x y, x ∈ textsL a b → y ∈ textsL a b → sumL x = sumL y → x = y := fun x y hx hy e => Classical.byContradiction fun hne => hno ⟨x, y, hx, hy, hne, e⟩
  have ma : ∀ n ∈ a, ndT a n ∈ textsL a b := fun n hn => by unfold textsL; simp; exact .inr (.inr (.inl ⟨n, hn, rfl⟩))
  have mb : ∀ n ∈ b, ndT b n ∈ textsL a b := fun n hn => by unfold textsL; simp; exact .inr (.inr (.inr ⟨n, hn, rfl⟩))
  have := text_like ha hb (fun x hx y hy e => all _ _ (ma x hx) (mb y hy) e) (fun x hx y hy e => all _ _ (mb x hx) (ma y hy) e) h1 h2 h3 (all _ _ (text_top h1).1 (text_top' h2) hs)
  rw [hl] at this
  cases this
theorem texts_len {a b : List Nd} (ha : MT a) (hb : MT b) : ∀ x ∈ textsL a b, x.length ≤ 1000000 := by
  intro x hx
  unfold textsL at hx
  simp only [List.mem_append, List.mem_cons, List.not_mem_nil, or_false, List.mem_map] at hx
  rcases hx with ((rfl | rfl) | ⟨n, hn, rfl⟩) | ⟨n, hn, rfl⟩
  · have := dirT_len ha ⟨#[]⟩; omega
  · have := dirT_len hb ⟨#[]⟩; omega
  · exact ndT_len ha n (ha.data n hn)
  · exact ndT_len hb n (hb.data n hn)
/-- The law's cases. -/
theorem like_cases {a b : List Nd} (ha : WF a) (hb : WF b) (p q : ByteArray) :
    (((prtL p a).2 = false ∨ (prtL q b).2 = false) ∧ likeL a p b q = false) ∨ ((prtL p a).2 = true ∧ (prtL q b).2 = true ∧ likeL a p b q = true ∧ (prtL p a).1 = (prtL q b).1) ∨
    ((prtL p a).2 = true ∧ (prtL q b).2 = true ∧ likeL a p b q = false ∧ ((topL p a).1.kind = (topL q b).1.kind → (prtL p a).1 = (prtL q b).1 → ∃ x y, x ∈ textsL a b ∧ y ∈ textsL a b ∧ x ≠ y ∧ sumL x = sumL y)) := by
  rw [prt_ok, prt_ok]
  cases hl : likeL a p b q with
  | true =>
    obtain ⟨h1, h2, _⟩ := (like_iff a b p q).1 hl
    exact .inr (.inl ⟨h1, h2, rfl, by rw [like_print ha hb hl]⟩)
  | false =>
    cases h1 : (topL p a).2 with
    | false => exact .inl ⟨.inl rfl, rfl⟩
    | true =>
      cases h2 : (topL q b).2 with
      | false => exact .inl ⟨.inr rfl, rfl⟩
      | true => exact .inr (.inr ⟨rfl, rfl, rfl, fun h3 h4 => clash_of ha hb h1 h2 h3 h4 hl⟩)
theorem at_root {t : List Nd} (h : MT t) (p : ByteArray) (he : p.toList.isEmpty = true) : atL p t = -1 := by
  rcases at_cases p t with h1 | ⟨k, n, _, h2, h3⟩
  · exact h1
  · have := h.named n (List.mem_of_getElem? h2)
    rw [hit_path h3, he] at this
    cases this

set_option maxHeartbeats 64000000 in
theorem like_law (A : Option Addr) (l : List Nd) (c : Nat) (D : Option Addr) (m : List Nd) (d : Nat) (p q : ByteArray) (w : World) (hA : RdN w w.heap.size A l) (hD : RdN w w.heap.size D m) :
    Calls Tryd.prog 4 #[.slice A l.length c, .slice D m.length d, .agg #[.string p, .string q]] w fun e w' => e = .returned (.bool true) ∧ Below w.heap.size w w' := by
  obtain ⟨W0, hW0⟩ : ∃ W0, W0 = w.alloc (.cells #[.string p, .string q] 38) := ⟨_, rfl⟩
  have hb0 : Below w.heap.size w W0 := by rw [hW0]; exact (Below.refl _ w).alloc (Nat.le_refl _) _
  have r0 : W0.heap[w.heap.size]? = some (.cells #[.string p, .string q] 38 (0, 0)) := by rw [hW0]; exact World.alloc_heap_new w _
  have hAB := (Array.getElem?_eq_some_iff.1 r0).1
  have HPQ := hide (fun (W : World) (hb : Below W0.heap.size W0 W) => (⟨cell_of_row _ _ _ _ _ _ ((hb.block w.heap.size hAB).trans r0), cell_of_row _ _ _ _ _ _ ((hb.block w.heap.size hAB).trans r0)⟩ : W.cell? ⟨w.heap.size, 0, none⟩ = some (.string p) ∧ W.cell? ⟨w.heap.size, 1, none⟩ = some (.string q)))
  obtain ⟨p0, q0⟩ := HPQ.out W0 (Below.refl _ _)
  have HS1 := hide (small_any A l c W0 (hA.step hb0))
  have HS2 := hide (small_any D m d W0 (hD.step hb0))
  have HAw := hide (awake_any W0)
  cases hs1 : smallL l with
  | false =>
    rw [hs1] at HS1
    clear HS2 hA hD r0 hAB HPQ
    go_enter Tryd.func4, Tryd.ntmps4
    go_wp2_with fail
    rw [← hW0]
    clear hW0
    refine HS1.out.mono ?_
    rintro e _ ⟨rfl, rfl⟩
    go_wp2_with fail
    refine HAw.out.mono ?_
    rintro e w9 ⟨rfl, hb9⟩
    go_wp2_with fail
    exact bodyPost_ret (results_tmp rfl _ _ _) rfl ⟨rfl, hb0.trans (hb9.mono hb0.size)⟩
  | true =>
    rw [hs1] at HS1
    cases hs2 : smallL m with
    | false =>
      rw [hs2] at HS2
      clear hA hD r0 hAB HPQ
      go_enter Tryd.func4, Tryd.ntmps4
      go_wp2_with fail
      rw [← hW0]
      clear hW0
      refine HS1.out.mono ?_
      rintro e _ ⟨rfl, rfl⟩
      go_wp2_with fail
      refine HS2.out.mono ?_
      rintro e _ ⟨rfl, rfl⟩
      go_wp2_with fail
      refine HAw.out.mono ?_
      rintro e w9 ⟨rfl, hb9⟩
      go_wp2_with fail
      exact bodyPost_ret (results_tmp rfl _ _ _) rfl ⟨rfl, hb0.trans (hb9.mono hb0.size)⟩
    | true =>
      rw [hs2] at HS2
      by_cases hp : (200 : Int) < p.size
      · clear hA hD r0 hAB HPQ
        go_enter Tryd.func4, Tryd.ntmps4
        go_wp2_with fail
        rw [← hW0]
        clear hW0
        refine HS1.out.mono ?_
        rintro e _ ⟨rfl, rfl⟩
        go_wp2_with fail
        refine HS2.out.mono ?_
        rintro e _ ⟨rfl, rfl⟩
        go_wp2_with fail
        refine HAw.out.mono ?_
        rintro e w9 ⟨rfl, hb9⟩
        go_wp2_with fail
        exact bodyPost_ret (results_tmp rfl _ _ _) rfl ⟨rfl, hb0.trans (hb9.mono hb0.size)⟩
      · by_cases hq : (200 : Int) < q.size
        · clear hA hD r0 hAB HPQ
          go_enter Tryd.func4, Tryd.ntmps4
          go_wp2_with fail
          rw [← hW0]
          clear hW0
          refine HS1.out.mono ?_
          rintro e _ ⟨rfl, rfl⟩
          go_wp2_with fail
          refine HS2.out.mono ?_
          rintro e _ ⟨rfl, rfl⟩
          go_wp2_with fail
          refine HAw.out.mono ?_
          rintro e w9 ⟨rfl, hb9⟩
          go_wp2_with fail
          exact bodyPost_ret (results_tmp rfl _ _ _) rfl ⟨rfl, hb0.trans (hb9.mono hb0.size)⟩
        · have ht := WF.tree hs1
          have hu := WF.tree hs2
          have h24 : l.length ≤ 24 := by
            unfold smallL at hs1
            rw [Bool.and_eq_true] at hs1
            exact of_decide_eq_true hs1.1
          have h25 : m.length ≤ 24 := by
            unfold smallL at hs2
            rw [Bool.and_eq_true] at hs2
            exact of_decide_eq_true hs2.1
          have hf : FewN l := fun k n hn => by have := small_mem hs1 (List.mem_of_getElem? hn); omega
          have hg : FewN m := fun k n hn => by have := small_mem hs2 (List.mem_of_getElem? hn); omega
          have HTree1 := hide (refOfTree_any A l c W0 (hA.step hb0) hf (by omega))
          have HTree2 := hide (fun (W : World) (h : Below W0.heap.size W0 W) => refOfTree_any D m d W ((hD.step hb0).step h) hg (by omega))
          generalize treeL l = t at ht HTree1
          generalize treeL m = u at hu HTree2
          have hlt := ht.mt.len
          have hlu := hu.mt.len
          have hcs := like_cases ht hu p q
          have hT1 := top_at t p
          have HZ1 := hide (fun (h : p.toList.isEmpty = true) => at_root ht.mt p h)
          have HZ2 := hide (fun (h : q.toList.isEmpty = true) => at_root hu.mt q h)
          have HOk1 := hide (prt_ok p t)
          have HOk2 := hide (prt_ok q u)
          have hT2 := top_at u q
          have HT := hide ht
          have HU := hide hu
          have HB0 := hide hb0
          clear hs1 hs2 hA hD r0 hAB ht hu hf hg hb0 HAw
          go_enter Tryd.func4, Tryd.ntmps4
          go_wp2_with fail
          rw [← hW0]
          clear hW0
          refine HS1.out.mono ?_
          rintro e _ ⟨rfl, rfl⟩
          go_wp2_with fail
          refine HS2.out.mono ?_
          rintro e _ ⟨rfl, rfl⟩
          clear HS1 HS2
          rename World => W0
          go_wp2_with fail
          refine HTree1.out.mono ?_
          rintro e w1 ⟨v, rfl, hN1⟩
          obtain ⟨E, f, rfl⟩ := ownsRow_slice hN1.own
          have HTr := hide (HTree2.out w1 hN1.below)
          have hR1 := RdN.own hN1.own
          have hb1 := hN1.below
          clear HTree1 HTree2 hN1 p0 q0
          go_wp2_with fail
          refine HTr.out.mono ?_
          rintro e w2 ⟨v, rfl, hN2⟩
          obtain ⟨G, g, rfl⟩ := ownsRow_slice hN2.own
          have hRt := hR1.step hN2.below
          have hRu := RdN.own hN2.own
          have hb2 := hb1.trans (hN2.below.mono hb1.size)
          have HLk := hide (like_any E G t u f g p q w2 hRt hRu HT.out.mt.few HU.out.mt.few (by omega) (by omega) (by omega) (by omega))
          have HRl := hide (fun (W : World) (h : Below w2.heap.size w2 W) => refLike_any E G t u f g p q W (hRt.step h) (hRu.step h) HT.out.mt.few HU.out.mt.few (by omega) (by omega) (by omega) (by omega))
          have HO1 := hide (fun (W : World) (h : Below w2.heap.size w2 W) => mkOf_any E t f p W (hRt.step h) HT.out.mt)
          have HO2 := hide (fun (W : World) (h : Below w2.heap.size w2 W) => mkOf_any G u g q W (hRu.step h) HU.out.mt)
          have HA1 := hide (fun (W : World) (h : Below w2.heap.size w2 W) => refAt_any E t f p W (hRt.step h) (by omega))
          have HA2 := hide (fun (W : World) (h : Below w2.heap.size w2 W) => refAt_any G u g q W (hRu.step h) (by omega))
          have HCl := hide (fun (W : World) (h : Below w2.heap.size w2 W) (hc : ∃ x y, x ∈ textsL t u ∧ y ∈ textsL t u ∧ x ≠ y ∧ sumL x = sumL y) => clash_any E G t u f g W (hRt.step h) (hRu.step h) HT.out.mt HU.out.mt hc (texts_len HT.out.mt HU.out.mt))
          have HRt := hide hRt
          have HRu := hide hRu
          have HPW := hide (fun (W : World) (h : Below w2.heap.size w2 W) => HPQ.out W (hb2.trans (h.mono hb2.size)))
          have HBW := hide (fun (W : World) (h : Below w2.heap.size w2 W) => (HB0.out.trans ((hb2.trans (h.mono hb2.size)).mono HB0.out.size) : Below w.heap.size w W))
          obtain ⟨p2, q2⟩ := HPW.out w2 (Below.refl _ _)
          clear HTr hR1 hb1 hN2 hRt hRu hb2 HPQ HB0
          have HClash := hide hcs
          generalize (∃ x y, x ∈ textsL t u ∧ y ∈ textsL t u ∧ x ≠ y ∧ sumL x = sumL y) = PC at HCl HClash
          generalize likeL t p u q = B at HLk HRl HClash
          generalize prtL p t = V1 at HO1 HClash HOk1
          generalize prtL q u = V2 at HO2 HClash HOk2
          generalize atL p t = i at HA1 hT1 HZ1
          generalize atL q u = k at HA2 hT2 HZ2
          generalize topL p t = T1 at hT1 HClash HOk1
          generalize topL q u = T2 at hT2 HClash HOk2
          obtain ⟨⟨x1, x2⟩, ok⟩ := V1
          obtain ⟨⟨y1, y2⟩, is⟩ := V2
          simp only at HO1 HO2 HClash HOk1 HOk2
          clear hcs
          go_wp2_with fail
          refine HLk.out.mono ?_
          rintro e w3 ⟨rfl, hb3⟩
          obtain ⟨p3, q3⟩ := HPW.out w3 hb3
          have HR3 := hide (HRl.out w3 hb3)
          clear HLk HRl p2 q2
          go_wp2_with fail
          refine HR3.out.mono ?_
          rintro e w4 ⟨rfl, hb4⟩
          have hc4 := hb3.trans (hb4.mono hb3.size)
          obtain ⟨p4, q4⟩ := HPW.out w4 hc4
          have HO4 := hide (HO1.out w4 hc4)
          clear HR3 HO1 hb3 hb4 p3 q3
          go_wp2_with fail
          refine HO4.out.mono ?_
          rintro e w5 ⟨rfl, hb5⟩
          have hc5 := hc4.trans (hb5.mono hc4.size)
          have r5 := World.alloc_heap_new w5 (Obj.cells #[.int .u64 (x1 : Nat), .int .u64 (x2 : Nat)] 28)
          have hc6 := hc5.alloc hc5.size (.cells #[.int .u64 (x1 : Nat), .int .u64 (x2 : Nat)] 28)
          obtain ⟨p6, q6⟩ := HPW.out _ hc6
          have HO6 := hide (HO2.out _ hc6)
          clear HO4 HO2 hb5 hc4 p4 q4
          go_wp2_with fail
          refine HO6.out.mono ?_
          rintro e w7 ⟨rfl, hb7⟩
          have hc7 := hc6.trans (hb7.mono hc6.size)
          have r7 := (hb7.block w5.heap.size (by simp)).trans r5
          have r8 := (Below.heap_alloc w7 (.cells #[.int .u64 (y1 : Nat), .int .u64 (y2 : Nat)] 28) _ (Array.getElem?_eq_some_iff.1 r7).1).trans r7
          have s8 := World.alloc_heap_new w7 (Obj.cells #[.int .u64 (y1 : Nat), .int .u64 (y2 : Nat)] 28)
          have hc8 := hc7.alloc hc7.size (.cells #[.int .u64 (y1 : Nat), .int .u64 (y2 : Nat)] 28)
          have h57 : w5.heap.size < w7.heap.size := (Array.getElem?_eq_some_iff.1 r7).1
          have h25' := hc5.size
          obtain ⟨W8, hW8⟩ : ∃ W8, W8 = w7.alloc (.cells #[.int .u64 (y1 : Nat), .int .u64 (y2 : Nat)] 28) := ⟨_, rfl⟩
          rw [← hW8] at r8 s8 hc8
          have HAw := hide (awake_any W8)
          clear HO6 hb7 hc6 hc7 p6 q6 r5 r7 hc5
          rcases HClash.out with ⟨hno, rfl⟩ | ⟨rfl, rfl, rfl, hxy⟩ | ⟨rfl, rfl, rfl, hcl⟩
          · have hno' : (!ok) = true ∨ ((!ok) = false ∧ (!is) = true) := by
              cases ok <;> cases is <;> simp_all
            clear HClash HCl HA1 HA2 hT1 hT2
            rcases hno' with h1 | ⟨h1, h2⟩
            all_goals
              go_wp2_with fail
              rw [← hW8]
              refine HAw.out.mono ?_
              rintro e w9 ⟨rfl, hb9⟩
              have HF := hide (HBW.out w9 (hc8.trans (hb9.mono hc8.size)))
              clear HAw hb9
              go_wp2_with fail
              exact bodyPost_ret (results_tmp rfl _ _ _) rfl ⟨rfl, HF.out⟩
          · injection hxy with e1 e2
            subst e1
            subst e2
            clear HClash HCl HA1 HA2 hT1 hT2
            go_wp2_with fail
            rw [← hW8]
            refine HAw.out.mono ?_
            rintro e w9 ⟨rfl, hb9⟩
            have r9 := (hb9.block w5.heap.size (Array.getElem?_eq_some_iff.1 r8).1).trans r8
            have s9 := (hb9.block w7.heap.size (Array.getElem?_eq_some_iff.1 s8).1).trans s8
            have a0 : w9.cell? ⟨w5.heap.size, 0, none⟩ = some (.int .u64 (x1 : Nat)) := cell_of_row _ _ _ _ _ _ r9
            have a1 : w9.cell? ⟨w5.heap.size, 1, none⟩ = some (.int .u64 (x2 : Nat)) := cell_of_row _ _ _ _ _ _ r9
            have b0 : w9.cell? ⟨w7.heap.size, 0, none⟩ = some (.int .u64 (x1 : Nat)) := cell_of_row _ _ _ _ _ _ s9
            have b1 : w9.cell? ⟨w7.heap.size, 1, none⟩ = some (.int .u64 (x2 : Nat)) := cell_of_row _ _ _ _ _ _ s9
            have HF := hide (HBW.out w9 (hc8.trans (hb9.mono hc8.size)))
            clear HAw hb9
            go_wp2_with fail
            exact bodyPost_ret (results_tmp rfl _ _ _) rfl ⟨rfl, HF.out⟩
          · clear HClash HAw
            rcases hT1 with ⟨g1, rfl⟩ | ⟨g1, hz1, h1e⟩ | ⟨i0, n, g1, rfl, hn, rfl⟩
            · rcases hT2 with ⟨g2, rfl⟩ | ⟨g2, hz2, h2e⟩ | ⟨k0, m', g2, rfl, hm, rfl⟩
              · simp only [rootNd] at hcl
                obtain ⟨p8, q8⟩ := HPW.out W8 hc8
                obtain ⟨r0, r1, hBX⟩ := two_rows W8 #[.string ⟨#[]⟩, .int .i64 1, .int .i64 0, .int .i64 0, .string ⟨#[]⟩] #[.string ⟨#[]⟩, .int .i64 1, .int .i64 0, .int .i64 0, .string ⟨#[]⟩] 34 34
                have e8 : W8.heap.size = w7.heap.size + 1 := by rw [hW8]; simp
                have h8w := hc8.size
                have hcX := hc8.trans (hBX.mono hc8.size)
                obtain ⟨p9, q9⟩ := HPW.out _ hcX
                have rX := (hBX.block w5.heap.size (Array.getElem?_eq_some_iff.1 r8).1).trans r8
                have sX := (hBX.block w7.heap.size (Array.getElem?_eq_some_iff.1 s8).1).trans s8
                have hw8 := (Array.getElem?_eq_some_iff.1 s8).1
                have hw9 := (Array.getElem?_eq_some_iff.1 r8).1
                have hlX := (Array.getElem?_eq_some_iff.1 r1).1
                have HAX := hide (HA1.out _ hcX)
                rw [e8] at r0 r1 hlX
                rw [hW8] at p9 q9
                go_wp2_with fail
                rw [← hW8] at p9 q9 ⊢
                clear hW8
                generalize (W8.alloc (.cells #[.string ⟨#[]⟩, .int .i64 1, .int .i64 0, .int .i64 0, .string ⟨#[]⟩] 34)).alloc (.cells #[.string ⟨#[]⟩, .int .i64 1, .int .i64 0, .int .i64 0, .string ⟨#[]⟩] 34) = X at r0 r1 hcX p9 q9 rX sX HAX hlX hBX ⊢
                refine HAX.out.mono ?_
                rintro e w9 ⟨rfl, hb9⟩
                have t0 := (hb9.block (w7.heap.size + 1) (Array.getElem?_eq_some_iff.1 r0).1).trans r0
                have t1 := (hb9.block (w7.heap.size + 1 + 1) (Array.getElem?_eq_some_iff.1 r1).1).trans r1
                have t2 := (hb9.block w5.heap.size (Array.getElem?_eq_some_iff.1 rX).1).trans rX
                have t3 := (hb9.block w7.heap.size (Array.getElem?_eq_some_iff.1 sX).1).trans sX
                have hc9 := hcX.trans (hb9.mono hcX.size)
                obtain ⟨p10, q10⟩ := HPW.out w9 hc9
                clear HA1 HAX hBX r8 s8 hc8 p8 q8 p9 q9 r0 r1 rX sX hb9
                have HAY := hide (HA2.out w9 hc9)
                have u0 := t0
                have u1 := t1
                have u2 := t2
                have u3 := t3
                have hcY := hc9
                clear HA2 t0 t1 t2 t3 hc9
                have hz1 := HZ1.out g1
                subst hz1
                go_wp2_with fail
                refine HAY.out.mono ?_
                rintro e w10 ⟨rfl, hb10⟩
                have f0 := (hb10.block (w7.heap.size + 1) (Array.getElem?_eq_some_iff.1 u0).1).trans u0
                have f1 := (hb10.block (w7.heap.size + 1 + 1) (Array.getElem?_eq_some_iff.1 u1).1).trans u1
                have f2 := (hb10.block w5.heap.size (Array.getElem?_eq_some_iff.1 u2).1).trans u2
                have f3 := (hb10.block w7.heap.size (Array.getElem?_eq_some_iff.1 u3).1).trans u3
                have hc10 := hcY.trans (hb10.mono hcY.size)
                clear HAY hb10 u0 u1 u2 u3 hcY
                have j0 := f0
                have j1 := f1
                have j2 := f2
                have j3 := f3
                have hcZ := hc10
                have HAwZ := hide (awake_any w10)
                clear f0 f1 f2 f3 hc10
                have hz2 := HZ2.out g2
                subst hz2
                go_wp2_with fail
                refine HAwZ.out.mono ?_
                rintro e w11 ⟨rfl, hb11⟩
                have k0' := (hb11.block (w7.heap.size + 1) (Array.getElem?_eq_some_iff.1 j0).1).trans j0
                have k1' := (hb11.block (w7.heap.size + 1 + 1) (Array.getElem?_eq_some_iff.1 j1).1).trans j1
                have k2' := (hb11.block w5.heap.size (Array.getElem?_eq_some_iff.1 j2).1).trans j2
                have k3' := (hb11.block w7.heap.size (Array.getElem?_eq_some_iff.1 j3).1).trans j3
                have hc11 := hcZ.trans (hb11.mono hcZ.size)
                have m0 : w11.cell? ⟨w7.heap.size + 1, 1, none⟩ = some (.int .i64 1) := cell_of_row _ _ _ _ _ _ k0'
                have m1 : w11.cell? ⟨w7.heap.size + 1 + 1, 1, none⟩ = some (.int .i64 1) := cell_of_row _ _ _ _ _ _ k1'
                have a0 : w11.cell? ⟨w5.heap.size, 0, none⟩ = some (.int .u64 (x1 : Nat)) := cell_of_row _ _ _ _ _ _ k2'
                have a1 : w11.cell? ⟨w5.heap.size, 1, none⟩ = some (.int .u64 (x2 : Nat)) := cell_of_row _ _ _ _ _ _ k2'
                have b0 : w11.cell? ⟨w7.heap.size, 0, none⟩ = some (.int .u64 (y1 : Nat)) := cell_of_row _ _ _ _ _ _ k3'
                have b1 : w11.cell? ⟨w7.heap.size, 1, none⟩ = some (.int .u64 (y2 : Nat)) := cell_of_row _ _ _ _ _ _ k3'
                have HF := hide (HBW.out w11 hc11)
                have HC11 := hide hc11
                clear HAwZ j0 j1 j2 j3 hcZ k0' k1' k2' k3' hb11 hc11
                by_cases hx1 : x1 = y1
                · by_cases hx2 : x2 = y2
                  · subst hx1
                    subst hx2
                    have HC2 := hide (HCl.out w11 HC11.out (hcl trivial rfl))
                    clear HCl hcl
                    go_wp2_with fail
                    refine HC2.out.mono ?_
                    rintro e w12 ⟨rfl, hb12⟩
                    have HF2 := hide (HBW.out w12 (HC11.out.trans (hb12.mono HC11.out.size)))
                    clear HC2 hb12
                    go_wp2_with fail
                    exact bodyPost_ret (results_tmp rfl _ _ _) rfl ⟨rfl, HF2.out⟩
                  · subst hx1
                    have hq2 : (((x2 : Nat) : Int) == ((y2 : Nat) : Int)) = false := by rw [beq_eq_false_iff_ne]; omega
                    go_wp2_with fail
                    exact bodyPost_ret (results_tmp rfl _ _ _) rfl ⟨rfl, HF.out⟩
                · have hq1 : (((x1 : Nat) : Int) == ((y1 : Nat) : Int)) = false := by rw [beq_eq_false_iff_ne]; omega
                  go_wp2_with fail
                  exact bodyPost_ret (results_tmp rfl _ _ _) rfl ⟨rfl, HF.out⟩
              · have h := HOk2.out.trans (congrArg Prod.snd h2e)
                cases h
              · simp only [rootNd] at hcl
                obtain ⟨p8, q8⟩ := HPW.out W8 hc8
                obtain ⟨r0, r1, hBX⟩ := two_rows W8 #[.string ⟨#[]⟩, .int .i64 1, .int .i64 0, .int .i64 0, .string ⟨#[]⟩] #[.string ⟨#[]⟩, .int .i64 1, .int .i64 0, .int .i64 0, .string ⟨#[]⟩] 34 34
                have e8 : W8.heap.size = w7.heap.size + 1 := by rw [hW8]; simp
                have h8w := hc8.size
                have hcX := hc8.trans (hBX.mono hc8.size)
                obtain ⟨p9, q9⟩ := HPW.out _ hcX
                have rX := (hBX.block w5.heap.size (Array.getElem?_eq_some_iff.1 r8).1).trans r8
                have sX := (hBX.block w7.heap.size (Array.getElem?_eq_some_iff.1 s8).1).trans s8
                have hw8 := (Array.getElem?_eq_some_iff.1 s8).1
                have hw9 := (Array.getElem?_eq_some_iff.1 r8).1
                have hlX := (Array.getElem?_eq_some_iff.1 r1).1
                have HAX := hide (HA1.out _ hcX)
                rw [e8] at r0 r1 hlX
                rw [hW8] at p9 q9
                go_wp2_with fail
                rw [← hW8] at p9 q9 ⊢
                clear hW8
                generalize (W8.alloc (.cells #[.string ⟨#[]⟩, .int .i64 1, .int .i64 0, .int .i64 0, .string ⟨#[]⟩] 34)).alloc (.cells #[.string ⟨#[]⟩, .int .i64 1, .int .i64 0, .int .i64 0, .string ⟨#[]⟩] 34) = X at r0 r1 hcX p9 q9 rX sX HAX hlX hBX ⊢
                refine HAX.out.mono ?_
                rintro e w9 ⟨rfl, hb9⟩
                have t0 := (hb9.block (w7.heap.size + 1) (Array.getElem?_eq_some_iff.1 r0).1).trans r0
                have t1 := (hb9.block (w7.heap.size + 1 + 1) (Array.getElem?_eq_some_iff.1 r1).1).trans r1
                have t2 := (hb9.block w5.heap.size (Array.getElem?_eq_some_iff.1 rX).1).trans rX
                have t3 := (hb9.block w7.heap.size (Array.getElem?_eq_some_iff.1 sX).1).trans sX
                have hc9 := hcX.trans (hb9.mono hcX.size)
                obtain ⟨p10, q10⟩ := HPW.out w9 hc9
                clear HA1 HAX hBX r8 s8 hc8 p8 q8 p9 q9 r0 r1 rX sX hb9
                have HAY := hide (HA2.out w9 hc9)
                have u0 := t0
                have u1 := t1
                have u2 := t2
                have u3 := t3
                have hcY := hc9
                clear HA2 t0 t1 t2 t3 hc9
                have hz1 := HZ1.out g1
                subst hz1
                go_wp2_with fail
                refine HAY.out.mono ?_
                rintro e w10 ⟨rfl, hb10⟩
                have f0 := (hb10.block (w7.heap.size + 1) (Array.getElem?_eq_some_iff.1 u0).1).trans u0
                have f1 := (hb10.block (w7.heap.size + 1 + 1) (Array.getElem?_eq_some_iff.1 u1).1).trans u1
                have f2 := (hb10.block w5.heap.size (Array.getElem?_eq_some_iff.1 u2).1).trans u2
                have f3 := (hb10.block w7.heap.size (Array.getElem?_eq_some_iff.1 u3).1).trans u3
                have hc10 := hcY.trans (hb10.mono hcY.size)
                clear HAY hb10 u0 u1 u2 u3 hcY
                obtain ⟨ay, rfl, hlt2, hmd⟩ := (HRu.out.below hc10 (Nat.le_refl _)) k0 m' hm
                have hk1 : (k0 : Int) < u.length := by have := (List.getElem?_eq_some_iff.1 hm).1; omega
                have hk0 : (0 : Int) ≤ (k0 : Int) := by omega
                obtain ⟨e0, e1, e2, e3, e4⟩ := hmd
                clear hm
                obtain ⟨mpath, mk, mmode, mtime, mdata⟩ := m'
                simp only at e0 e1 e2 e3 e4 hcl
                have z0 : w10.frozen? ⟨w7.heap.size + 1 + 1, 0, none⟩ = false := frozen_of_row _ _ _ _ _ f1
                have z1 : w10.frozen? ⟨w7.heap.size + 1 + 1, 1, none⟩ = false := frozen_of_row _ _ _ _ _ f1
                have z2 : w10.frozen? ⟨w7.heap.size + 1 + 1, 2, none⟩ = false := frozen_of_row _ _ _ _ _ f1
                have z3 : w10.frozen? ⟨w7.heap.size + 1 + 1, 3, none⟩ = false := frozen_of_row _ _ _ _ _ f1
                have z4 : w10.frozen? ⟨w7.heap.size + 1 + 1, 4, none⟩ = false := frozen_of_row _ _ _ _ _ f1
                have v0 : w10.cell? ⟨w7.heap.size + 1 + 1, 0, none⟩ = some (.string ⟨#[]⟩) := cell_of_row _ _ _ _ _ _ f1
                have v1 : w10.cell? ⟨w7.heap.size + 1 + 1, 1, none⟩ = some (.int .i64 1) := cell_of_row _ _ _ _ _ _ f1
                have v2 : w10.cell? ⟨w7.heap.size + 1 + 1, 2, none⟩ = some (.int .i64 0) := cell_of_row _ _ _ _ _ _ f1
                have v3 : w10.cell? ⟨w7.heap.size + 1 + 1, 3, none⟩ = some (.int .i64 0) := cell_of_row _ _ _ _ _ _ f1
                have v4 : w10.cell? ⟨w7.heap.size + 1 + 1, 4, none⟩ = some (.string ⟨#[]⟩) := cell_of_row _ _ _ _ _ _ f1
                obtain ⟨Z, hZ, j1, hgZ⟩ := set_five' w10 (w7.heap.size + 1 + 1) _ _ _ _ _ (.string mpath) (.int .i64 mk) (.int .i64 mmode) (.int .i64 mtime) (.string mdata) _ f1
                have j0 := (hgZ.block (w7.heap.size + 1) (Array.getElem?_eq_some_iff.1 f0).1 (by simp)).trans f0
                have j2 := (hgZ.block w5.heap.size (Array.getElem?_eq_some_iff.1 f2).1 (by simp; omega)).trans f2
                have j3 := (hgZ.block w7.heap.size (Array.getElem?_eq_some_iff.1 f3).1 (by simp; omega)).trans f3
                have hcZ : Below w2.heap.size w2 Z := hc10.grown hgZ hc10.size (fun k hk => by cases hk; omega)
                have HAwZ := hide (awake_any Z)
                subst hZ
                clear f0 f1 f2 f3 hgZ hc10
                go_wp2_with fail
                generalize ((((w10.setCell ⟨w7.heap.size + 1 + 1, 0, none⟩ (.string mpath)).setCell ⟨w7.heap.size + 1 + 1, 1, none⟩ (.int .i64 mk)).setCell ⟨w7.heap.size + 1 + 1, 2, none⟩ (.int .i64 mmode)).setCell ⟨w7.heap.size + 1 + 1, 3, none⟩ (.int .i64 mtime)).setCell ⟨w7.heap.size + 1 + 1, 4, none⟩ (.string mdata) = Z at j0 j1 j2 j3 hcZ HAwZ ⊢
                clear z0 z1 z2 z3 z4 v0 v1 v2 v3 v4 e0 e1 e2 e3 e4
                refine HAwZ.out.mono ?_
                rintro e w11 ⟨rfl, hb11⟩
                have k0' := (hb11.block (w7.heap.size + 1) (Array.getElem?_eq_some_iff.1 j0).1).trans j0
                have k1' := (hb11.block (w7.heap.size + 1 + 1) (Array.getElem?_eq_some_iff.1 j1).1).trans j1
                have k2' := (hb11.block w5.heap.size (Array.getElem?_eq_some_iff.1 j2).1).trans j2
                have k3' := (hb11.block w7.heap.size (Array.getElem?_eq_some_iff.1 j3).1).trans j3
                have hc11 := hcZ.trans (hb11.mono hcZ.size)
                have m0 : w11.cell? ⟨w7.heap.size + 1, 1, none⟩ = some (.int .i64 1) := cell_of_row _ _ _ _ _ _ k0'
                have m1 : w11.cell? ⟨w7.heap.size + 1 + 1, 1, none⟩ = some (.int .i64 mk) := cell_of_row _ _ _ _ _ _ k1'
                have a0 : w11.cell? ⟨w5.heap.size, 0, none⟩ = some (.int .u64 (x1 : Nat)) := cell_of_row _ _ _ _ _ _ k2'
                have a1 : w11.cell? ⟨w5.heap.size, 1, none⟩ = some (.int .u64 (x2 : Nat)) := cell_of_row _ _ _ _ _ _ k2'
                have b0 : w11.cell? ⟨w7.heap.size, 0, none⟩ = some (.int .u64 (y1 : Nat)) := cell_of_row _ _ _ _ _ _ k3'
                have b1 : w11.cell? ⟨w7.heap.size, 1, none⟩ = some (.int .u64 (y2 : Nat)) := cell_of_row _ _ _ _ _ _ k3'
                have HF := hide (HBW.out w11 hc11)
                have HC11 := hide hc11
                clear HAwZ j0 j1 j2 j3 hcZ k0' k1' k2' k3' hb11 hc11
                by_cases hkk : (1 : Int) = mk
                · subst hkk
                  by_cases hx1 : x1 = y1
                  · by_cases hx2 : x2 = y2
                    · subst hx1
                      subst hx2
                      have HC2 := hide (HCl.out w11 HC11.out (hcl rfl rfl))
                      clear HCl hcl
                      go_wp2_with fail
                      refine HC2.out.mono ?_
                      rintro e w12 ⟨rfl, hb12⟩
                      have HF2 := hide (HBW.out w12 (HC11.out.trans (hb12.mono HC11.out.size)))
                      clear HC2 hb12
                      go_wp2_with fail
                      exact bodyPost_ret (results_tmp rfl _ _ _) rfl ⟨rfl, HF2.out⟩
                    · subst hx1
                      have hq2 : (((x2 : Nat) : Int) == ((y2 : Nat) : Int)) = false := by rw [beq_eq_false_iff_ne]; omega
                      go_wp2_with fail
                      exact bodyPost_ret (results_tmp rfl _ _ _) rfl ⟨rfl, HF.out⟩
                  · have hq1 : (((x1 : Nat) : Int) == ((y1 : Nat) : Int)) = false := by rw [beq_eq_false_iff_ne]; omega
                    go_wp2_with fail
                    exact bodyPost_ret (results_tmp rfl _ _ _) rfl ⟨rfl, HF.out⟩
                · have hq3 : ((1 : Int) == mk) = false := by rw [beq_eq_false_iff_ne]; exact hkk
                  have hq4 : ((1 : Int) != mk) = true := by rw [bne, hq3]; rfl
                  go_wp2_with fail
                  exact bodyPost_ret (results_tmp rfl _ _ _) rfl ⟨rfl, HF.out⟩
            · have h := HOk1.out.trans (congrArg Prod.snd h1e)
              cases h
            · rcases hT2 with ⟨g2, rfl⟩ | ⟨g2, hz2, h2e⟩ | ⟨k0, m', g2, rfl, hm, rfl⟩
              · simp only [rootNd] at hcl
                obtain ⟨p8, q8⟩ := HPW.out W8 hc8
                obtain ⟨r0, r1, hBX⟩ := two_rows W8 #[.string ⟨#[]⟩, .int .i64 1, .int .i64 0, .int .i64 0, .string ⟨#[]⟩] #[.string ⟨#[]⟩, .int .i64 1, .int .i64 0, .int .i64 0, .string ⟨#[]⟩] 34 34
                have e8 : W8.heap.size = w7.heap.size + 1 := by rw [hW8]; simp
                have h8w := hc8.size
                have hcX := hc8.trans (hBX.mono hc8.size)
                obtain ⟨p9, q9⟩ := HPW.out _ hcX
                have rX := (hBX.block w5.heap.size (Array.getElem?_eq_some_iff.1 r8).1).trans r8
                have sX := (hBX.block w7.heap.size (Array.getElem?_eq_some_iff.1 s8).1).trans s8
                have hw8 := (Array.getElem?_eq_some_iff.1 s8).1
                have hw9 := (Array.getElem?_eq_some_iff.1 r8).1
                have hlX := (Array.getElem?_eq_some_iff.1 r1).1
                have HAX := hide (HA1.out _ hcX)
                rw [e8] at r0 r1 hlX
                rw [hW8] at p9 q9
                go_wp2_with fail
                rw [← hW8] at p9 q9 ⊢
                clear hW8
                generalize (W8.alloc (.cells #[.string ⟨#[]⟩, .int .i64 1, .int .i64 0, .int .i64 0, .string ⟨#[]⟩] 34)).alloc (.cells #[.string ⟨#[]⟩, .int .i64 1, .int .i64 0, .int .i64 0, .string ⟨#[]⟩] 34) = X at r0 r1 hcX p9 q9 rX sX HAX hlX hBX ⊢
                refine HAX.out.mono ?_
                rintro e w9 ⟨rfl, hb9⟩
                have t0 := (hb9.block (w7.heap.size + 1) (Array.getElem?_eq_some_iff.1 r0).1).trans r0
                have t1 := (hb9.block (w7.heap.size + 1 + 1) (Array.getElem?_eq_some_iff.1 r1).1).trans r1
                have t2 := (hb9.block w5.heap.size (Array.getElem?_eq_some_iff.1 rX).1).trans rX
                have t3 := (hb9.block w7.heap.size (Array.getElem?_eq_some_iff.1 sX).1).trans sX
                have hc9 := hcX.trans (hb9.mono hcX.size)
                obtain ⟨p10, q10⟩ := HPW.out w9 hc9
                clear HA1 HAX hBX r8 s8 hc8 p8 q8 p9 q9 r0 r1 rX sX hb9
                obtain ⟨ax, rfl, hlt1, hnd⟩ := (HRt.out.below hc9 (Nat.le_refl _)) i0 n hn
                have hi1 : (i0 : Int) < t.length := by have := (List.getElem?_eq_some_iff.1 hn).1; omega
                have hi0 : (0 : Int) ≤ (i0 : Int) := by omega
                obtain ⟨c0, c1, c2, c3, c4⟩ := hnd
                clear hn
                obtain ⟨npath, nk, nmode, ntime, ndata⟩ := n
                simp only at c0 c1 c2 c3 c4 hcl
                have z0 : w9.frozen? ⟨w7.heap.size + 1, 0, none⟩ = false := frozen_of_row _ _ _ _ _ t0
                have z1 : w9.frozen? ⟨w7.heap.size + 1, 1, none⟩ = false := frozen_of_row _ _ _ _ _ t0
                have z2 : w9.frozen? ⟨w7.heap.size + 1, 2, none⟩ = false := frozen_of_row _ _ _ _ _ t0
                have z3 : w9.frozen? ⟨w7.heap.size + 1, 3, none⟩ = false := frozen_of_row _ _ _ _ _ t0
                have z4 : w9.frozen? ⟨w7.heap.size + 1, 4, none⟩ = false := frozen_of_row _ _ _ _ _ t0
                have v0 : w9.cell? ⟨w7.heap.size + 1, 0, none⟩ = some (.string ⟨#[]⟩) := cell_of_row _ _ _ _ _ _ t0
                have v1 : w9.cell? ⟨w7.heap.size + 1, 1, none⟩ = some (.int .i64 1) := cell_of_row _ _ _ _ _ _ t0
                have v2 : w9.cell? ⟨w7.heap.size + 1, 2, none⟩ = some (.int .i64 0) := cell_of_row _ _ _ _ _ _ t0
                have v3 : w9.cell? ⟨w7.heap.size + 1, 3, none⟩ = some (.int .i64 0) := cell_of_row _ _ _ _ _ _ t0
                have v4 : w9.cell? ⟨w7.heap.size + 1, 4, none⟩ = some (.string ⟨#[]⟩) := cell_of_row _ _ _ _ _ _ t0
                obtain ⟨Y, hY, u0, hgY⟩ := set_five' w9 (w7.heap.size + 1) _ _ _ _ _ (.string npath) (.int .i64 nk) (.int .i64 nmode) (.int .i64 ntime) (.string ndata) _ t0
                have u1 := (hgY.block (w7.heap.size + 1 + 1) (Array.getElem?_eq_some_iff.1 t1).1 (by simp)).trans t1
                have u2 := (hgY.block w5.heap.size (Array.getElem?_eq_some_iff.1 t2).1 (by simp; omega)).trans t2
                have u3 := (hgY.block w7.heap.size (Array.getElem?_eq_some_iff.1 t3).1 (by simp)).trans t3
                have hcY : Below w2.heap.size w2 Y := hc9.grown hgY hc9.size (fun k hk => by cases hk; omega)
                obtain ⟨p11, q11⟩ := HPW.out Y hcY
                have HAY := hide (HA2.out Y hcY)
                subst hY
                clear t0 t1 t2 t3 hgY hc9 p10 q10 HA2
                go_wp2_with fail
                generalize ((((w9.setCell ⟨w7.heap.size + 1, 0, none⟩ (.string npath)).setCell ⟨w7.heap.size + 1, 1, none⟩ (.int .i64 nk)).setCell ⟨w7.heap.size + 1, 2, none⟩ (.int .i64 nmode)).setCell ⟨w7.heap.size + 1, 3, none⟩ (.int .i64 ntime)).setCell ⟨w7.heap.size + 1, 4, none⟩ (.string ndata) = Y at u0 u1 u2 u3 hcY p11 q11 HAY ⊢
                clear z0 z1 z2 z3 z4 v0 v1 v2 v3 v4 c0 c1 c2 c3 c4
                refine HAY.out.mono ?_
                rintro e w10 ⟨rfl, hb10⟩
                have f0 := (hb10.block (w7.heap.size + 1) (Array.getElem?_eq_some_iff.1 u0).1).trans u0
                have f1 := (hb10.block (w7.heap.size + 1 + 1) (Array.getElem?_eq_some_iff.1 u1).1).trans u1
                have f2 := (hb10.block w5.heap.size (Array.getElem?_eq_some_iff.1 u2).1).trans u2
                have f3 := (hb10.block w7.heap.size (Array.getElem?_eq_some_iff.1 u3).1).trans u3
                have hc10 := hcY.trans (hb10.mono hcY.size)
                clear HAY hb10 u0 u1 u2 u3 hcY
                have j0 := f0
                have j1 := f1
                have j2 := f2
                have j3 := f3
                have hcZ := hc10
                have HAwZ := hide (awake_any w10)
                clear f0 f1 f2 f3 hc10
                have hz2 := HZ2.out g2
                subst hz2
                go_wp2_with fail
                refine HAwZ.out.mono ?_
                rintro e w11 ⟨rfl, hb11⟩
                have k0' := (hb11.block (w7.heap.size + 1) (Array.getElem?_eq_some_iff.1 j0).1).trans j0
                have k1' := (hb11.block (w7.heap.size + 1 + 1) (Array.getElem?_eq_some_iff.1 j1).1).trans j1
                have k2' := (hb11.block w5.heap.size (Array.getElem?_eq_some_iff.1 j2).1).trans j2
                have k3' := (hb11.block w7.heap.size (Array.getElem?_eq_some_iff.1 j3).1).trans j3
                have hc11 := hcZ.trans (hb11.mono hcZ.size)
                have m0 : w11.cell? ⟨w7.heap.size + 1, 1, none⟩ = some (.int .i64 nk) := cell_of_row _ _ _ _ _ _ k0'
                have m1 : w11.cell? ⟨w7.heap.size + 1 + 1, 1, none⟩ = some (.int .i64 1) := cell_of_row _ _ _ _ _ _ k1'
                have a0 : w11.cell? ⟨w5.heap.size, 0, none⟩ = some (.int .u64 (x1 : Nat)) := cell_of_row _ _ _ _ _ _ k2'
                have a1 : w11.cell? ⟨w5.heap.size, 1, none⟩ = some (.int .u64 (x2 : Nat)) := cell_of_row _ _ _ _ _ _ k2'
                have b0 : w11.cell? ⟨w7.heap.size, 0, none⟩ = some (.int .u64 (y1 : Nat)) := cell_of_row _ _ _ _ _ _ k3'
                have b1 : w11.cell? ⟨w7.heap.size, 1, none⟩ = some (.int .u64 (y2 : Nat)) := cell_of_row _ _ _ _ _ _ k3'
                have HF := hide (HBW.out w11 hc11)
                have HC11 := hide hc11
                clear HAwZ j0 j1 j2 j3 hcZ k0' k1' k2' k3' hb11 hc11
                by_cases hkk : (nk : Int) = 1
                · subst hkk
                  by_cases hx1 : x1 = y1
                  · by_cases hx2 : x2 = y2
                    · subst hx1
                      subst hx2
                      have HC2 := hide (HCl.out w11 HC11.out (hcl rfl rfl))
                      clear HCl hcl
                      go_wp2_with fail
                      refine HC2.out.mono ?_
                      rintro e w12 ⟨rfl, hb12⟩
                      have HF2 := hide (HBW.out w12 (HC11.out.trans (hb12.mono HC11.out.size)))
                      clear HC2 hb12
                      go_wp2_with fail
                      exact bodyPost_ret (results_tmp rfl _ _ _) rfl ⟨rfl, HF2.out⟩
                    · subst hx1
                      have hq2 : (((x2 : Nat) : Int) == ((y2 : Nat) : Int)) = false := by rw [beq_eq_false_iff_ne]; omega
                      go_wp2_with fail
                      exact bodyPost_ret (results_tmp rfl _ _ _) rfl ⟨rfl, HF.out⟩
                  · have hq1 : (((x1 : Nat) : Int) == ((y1 : Nat) : Int)) = false := by rw [beq_eq_false_iff_ne]; omega
                    go_wp2_with fail
                    exact bodyPost_ret (results_tmp rfl _ _ _) rfl ⟨rfl, HF.out⟩
                · have hq3 : ((nk : Int) == 1) = false := by rw [beq_eq_false_iff_ne]; exact hkk
                  have hq4 : ((nk : Int) != 1) = true := by rw [bne, hq3]; rfl
                  go_wp2_with fail
                  exact bodyPost_ret (results_tmp rfl _ _ _) rfl ⟨rfl, HF.out⟩
              · have h := HOk2.out.trans (congrArg Prod.snd h2e)
                cases h
              · simp only at hcl
                obtain ⟨p8, q8⟩ := HPW.out W8 hc8
                obtain ⟨r0, r1, hBX⟩ := two_rows W8 #[.string ⟨#[]⟩, .int .i64 1, .int .i64 0, .int .i64 0, .string ⟨#[]⟩] #[.string ⟨#[]⟩, .int .i64 1, .int .i64 0, .int .i64 0, .string ⟨#[]⟩] 34 34
                have e8 : W8.heap.size = w7.heap.size + 1 := by rw [hW8]; simp
                have h8w := hc8.size
                have hcX := hc8.trans (hBX.mono hc8.size)
                obtain ⟨p9, q9⟩ := HPW.out _ hcX
                have rX := (hBX.block w5.heap.size (Array.getElem?_eq_some_iff.1 r8).1).trans r8
                have sX := (hBX.block w7.heap.size (Array.getElem?_eq_some_iff.1 s8).1).trans s8
                have hw8 := (Array.getElem?_eq_some_iff.1 s8).1
                have hw9 := (Array.getElem?_eq_some_iff.1 r8).1
                have hlX := (Array.getElem?_eq_some_iff.1 r1).1
                have HAX := hide (HA1.out _ hcX)
                rw [e8] at r0 r1 hlX
                rw [hW8] at p9 q9
                go_wp2_with fail
                rw [← hW8] at p9 q9 ⊢
                clear hW8
                generalize (W8.alloc (.cells #[.string ⟨#[]⟩, .int .i64 1, .int .i64 0, .int .i64 0, .string ⟨#[]⟩] 34)).alloc (.cells #[.string ⟨#[]⟩, .int .i64 1, .int .i64 0, .int .i64 0, .string ⟨#[]⟩] 34) = X at r0 r1 hcX p9 q9 rX sX HAX hlX hBX ⊢
                refine HAX.out.mono ?_
                rintro e w9 ⟨rfl, hb9⟩
                have t0 := (hb9.block (w7.heap.size + 1) (Array.getElem?_eq_some_iff.1 r0).1).trans r0
                have t1 := (hb9.block (w7.heap.size + 1 + 1) (Array.getElem?_eq_some_iff.1 r1).1).trans r1
                have t2 := (hb9.block w5.heap.size (Array.getElem?_eq_some_iff.1 rX).1).trans rX
                have t3 := (hb9.block w7.heap.size (Array.getElem?_eq_some_iff.1 sX).1).trans sX
                have hc9 := hcX.trans (hb9.mono hcX.size)
                obtain ⟨p10, q10⟩ := HPW.out w9 hc9
                clear HA1 HAX hBX r8 s8 hc8 p8 q8 p9 q9 r0 r1 rX sX hb9
                obtain ⟨ax, rfl, hlt1, hnd⟩ := (HRt.out.below hc9 (Nat.le_refl _)) i0 n hn
                have hi1 : (i0 : Int) < t.length := by have := (List.getElem?_eq_some_iff.1 hn).1; omega
                have hi0 : (0 : Int) ≤ (i0 : Int) := by omega
                obtain ⟨c0, c1, c2, c3, c4⟩ := hnd
                clear hn
                obtain ⟨npath, nk, nmode, ntime, ndata⟩ := n
                simp only at c0 c1 c2 c3 c4 hcl
                have z0 : w9.frozen? ⟨w7.heap.size + 1, 0, none⟩ = false := frozen_of_row _ _ _ _ _ t0
                have z1 : w9.frozen? ⟨w7.heap.size + 1, 1, none⟩ = false := frozen_of_row _ _ _ _ _ t0
                have z2 : w9.frozen? ⟨w7.heap.size + 1, 2, none⟩ = false := frozen_of_row _ _ _ _ _ t0
                have z3 : w9.frozen? ⟨w7.heap.size + 1, 3, none⟩ = false := frozen_of_row _ _ _ _ _ t0
                have z4 : w9.frozen? ⟨w7.heap.size + 1, 4, none⟩ = false := frozen_of_row _ _ _ _ _ t0
                have v0 : w9.cell? ⟨w7.heap.size + 1, 0, none⟩ = some (.string ⟨#[]⟩) := cell_of_row _ _ _ _ _ _ t0
                have v1 : w9.cell? ⟨w7.heap.size + 1, 1, none⟩ = some (.int .i64 1) := cell_of_row _ _ _ _ _ _ t0
                have v2 : w9.cell? ⟨w7.heap.size + 1, 2, none⟩ = some (.int .i64 0) := cell_of_row _ _ _ _ _ _ t0
                have v3 : w9.cell? ⟨w7.heap.size + 1, 3, none⟩ = some (.int .i64 0) := cell_of_row _ _ _ _ _ _ t0
                have v4 : w9.cell? ⟨w7.heap.size + 1, 4, none⟩ = some (.string ⟨#[]⟩) := cell_of_row _ _ _ _ _ _ t0
                obtain ⟨Y, hY, u0, hgY⟩ := set_five' w9 (w7.heap.size + 1) _ _ _ _ _ (.string npath) (.int .i64 nk) (.int .i64 nmode) (.int .i64 ntime) (.string ndata) _ t0
                have u1 := (hgY.block (w7.heap.size + 1 + 1) (Array.getElem?_eq_some_iff.1 t1).1 (by simp)).trans t1
                have u2 := (hgY.block w5.heap.size (Array.getElem?_eq_some_iff.1 t2).1 (by simp; omega)).trans t2
                have u3 := (hgY.block w7.heap.size (Array.getElem?_eq_some_iff.1 t3).1 (by simp)).trans t3
                have hcY : Below w2.heap.size w2 Y := hc9.grown hgY hc9.size (fun k hk => by cases hk; omega)
                obtain ⟨p11, q11⟩ := HPW.out Y hcY
                have HAY := hide (HA2.out Y hcY)
                subst hY
                clear t0 t1 t2 t3 hgY hc9 p10 q10 HA2
                go_wp2_with fail
                generalize ((((w9.setCell ⟨w7.heap.size + 1, 0, none⟩ (.string npath)).setCell ⟨w7.heap.size + 1, 1, none⟩ (.int .i64 nk)).setCell ⟨w7.heap.size + 1, 2, none⟩ (.int .i64 nmode)).setCell ⟨w7.heap.size + 1, 3, none⟩ (.int .i64 ntime)).setCell ⟨w7.heap.size + 1, 4, none⟩ (.string ndata) = Y at u0 u1 u2 u3 hcY p11 q11 HAY ⊢
                clear z0 z1 z2 z3 z4 v0 v1 v2 v3 v4 c0 c1 c2 c3 c4
                refine HAY.out.mono ?_
                rintro e w10 ⟨rfl, hb10⟩
                have f0 := (hb10.block (w7.heap.size + 1) (Array.getElem?_eq_some_iff.1 u0).1).trans u0
                have f1 := (hb10.block (w7.heap.size + 1 + 1) (Array.getElem?_eq_some_iff.1 u1).1).trans u1
                have f2 := (hb10.block w5.heap.size (Array.getElem?_eq_some_iff.1 u2).1).trans u2
                have f3 := (hb10.block w7.heap.size (Array.getElem?_eq_some_iff.1 u3).1).trans u3
                have hc10 := hcY.trans (hb10.mono hcY.size)
                clear HAY hb10 u0 u1 u2 u3 hcY
                obtain ⟨ay, rfl, hlt2, hmd⟩ := (HRu.out.below hc10 (Nat.le_refl _)) k0 m' hm
                have hk1 : (k0 : Int) < u.length := by have := (List.getElem?_eq_some_iff.1 hm).1; omega
                have hk0 : (0 : Int) ≤ (k0 : Int) := by omega
                obtain ⟨e0, e1, e2, e3, e4⟩ := hmd
                clear hm
                obtain ⟨mpath, mk, mmode, mtime, mdata⟩ := m'
                simp only at e0 e1 e2 e3 e4 hcl
                have z0 : w10.frozen? ⟨w7.heap.size + 1 + 1, 0, none⟩ = false := frozen_of_row _ _ _ _ _ f1
                have z1 : w10.frozen? ⟨w7.heap.size + 1 + 1, 1, none⟩ = false := frozen_of_row _ _ _ _ _ f1
                have z2 : w10.frozen? ⟨w7.heap.size + 1 + 1, 2, none⟩ = false := frozen_of_row _ _ _ _ _ f1
                have z3 : w10.frozen? ⟨w7.heap.size + 1 + 1, 3, none⟩ = false := frozen_of_row _ _ _ _ _ f1
                have z4 : w10.frozen? ⟨w7.heap.size + 1 + 1, 4, none⟩ = false := frozen_of_row _ _ _ _ _ f1
                have v0 : w10.cell? ⟨w7.heap.size + 1 + 1, 0, none⟩ = some (.string ⟨#[]⟩) := cell_of_row _ _ _ _ _ _ f1
                have v1 : w10.cell? ⟨w7.heap.size + 1 + 1, 1, none⟩ = some (.int .i64 1) := cell_of_row _ _ _ _ _ _ f1
                have v2 : w10.cell? ⟨w7.heap.size + 1 + 1, 2, none⟩ = some (.int .i64 0) := cell_of_row _ _ _ _ _ _ f1
                have v3 : w10.cell? ⟨w7.heap.size + 1 + 1, 3, none⟩ = some (.int .i64 0) := cell_of_row _ _ _ _ _ _ f1
                have v4 : w10.cell? ⟨w7.heap.size + 1 + 1, 4, none⟩ = some (.string ⟨#[]⟩) := cell_of_row _ _ _ _ _ _ f1
                obtain ⟨Z, hZ, j1, hgZ⟩ := set_five' w10 (w7.heap.size + 1 + 1) _ _ _ _ _ (.string mpath) (.int .i64 mk) (.int .i64 mmode) (.int .i64 mtime) (.string mdata) _ f1
                have j0 := (hgZ.block (w7.heap.size + 1) (Array.getElem?_eq_some_iff.1 f0).1 (by simp)).trans f0
                have j2 := (hgZ.block w5.heap.size (Array.getElem?_eq_some_iff.1 f2).1 (by simp; omega)).trans f2
                have j3 := (hgZ.block w7.heap.size (Array.getElem?_eq_some_iff.1 f3).1 (by simp; omega)).trans f3
                have hcZ : Below w2.heap.size w2 Z := hc10.grown hgZ hc10.size (fun k hk => by cases hk; omega)
                have HAwZ := hide (awake_any Z)
                subst hZ
                clear f0 f1 f2 f3 hgZ hc10
                go_wp2_with fail
                generalize ((((w10.setCell ⟨w7.heap.size + 1 + 1, 0, none⟩ (.string mpath)).setCell ⟨w7.heap.size + 1 + 1, 1, none⟩ (.int .i64 mk)).setCell ⟨w7.heap.size + 1 + 1, 2, none⟩ (.int .i64 mmode)).setCell ⟨w7.heap.size + 1 + 1, 3, none⟩ (.int .i64 mtime)).setCell ⟨w7.heap.size + 1 + 1, 4, none⟩ (.string mdata) = Z at j0 j1 j2 j3 hcZ HAwZ ⊢
                clear z0 z1 z2 z3 z4 v0 v1 v2 v3 v4 e0 e1 e2 e3 e4
                refine HAwZ.out.mono ?_
                rintro e w11 ⟨rfl, hb11⟩
                have k0' := (hb11.block (w7.heap.size + 1) (Array.getElem?_eq_some_iff.1 j0).1).trans j0
                have k1' := (hb11.block (w7.heap.size + 1 + 1) (Array.getElem?_eq_some_iff.1 j1).1).trans j1
                have k2' := (hb11.block w5.heap.size (Array.getElem?_eq_some_iff.1 j2).1).trans j2
                have k3' := (hb11.block w7.heap.size (Array.getElem?_eq_some_iff.1 j3).1).trans j3
                have hc11 := hcZ.trans (hb11.mono hcZ.size)
                have m0 : w11.cell? ⟨w7.heap.size + 1, 1, none⟩ = some (.int .i64 nk) := cell_of_row _ _ _ _ _ _ k0'
                have m1 : w11.cell? ⟨w7.heap.size + 1 + 1, 1, none⟩ = some (.int .i64 mk) := cell_of_row _ _ _ _ _ _ k1'
                have a0 : w11.cell? ⟨w5.heap.size, 0, none⟩ = some (.int .u64 (x1 : Nat)) := cell_of_row _ _ _ _ _ _ k2'
                have a1 : w11.cell? ⟨w5.heap.size, 1, none⟩ = some (.int .u64 (x2 : Nat)) := cell_of_row _ _ _ _ _ _ k2'
                have b0 : w11.cell? ⟨w7.heap.size, 0, none⟩ = some (.int .u64 (y1 : Nat)) := cell_of_row _ _ _ _ _ _ k3'
                have b1 : w11.cell? ⟨w7.heap.size, 1, none⟩ = some (.int .u64 (y2 : Nat)) := cell_of_row _ _ _ _ _ _ k3'
                have HF := hide (HBW.out w11 hc11)
                have HC11 := hide hc11
                clear HAwZ j0 j1 j2 j3 hcZ k0' k1' k2' k3' hb11 hc11
                by_cases hkk : (nk : Int) = mk
                · subst hkk
                  by_cases hx1 : x1 = y1
                  · by_cases hx2 : x2 = y2
                    · subst hx1
                      subst hx2
                      have HC2 := hide (HCl.out w11 HC11.out (hcl rfl rfl))
                      clear HCl hcl
                      go_wp2_with fail
                      refine HC2.out.mono ?_
                      rintro e w12 ⟨rfl, hb12⟩
                      have HF2 := hide (HBW.out w12 (HC11.out.trans (hb12.mono HC11.out.size)))
                      clear HC2 hb12
                      go_wp2_with fail
                      exact bodyPost_ret (results_tmp rfl _ _ _) rfl ⟨rfl, HF2.out⟩
                    · subst hx1
                      have hq2 : (((x2 : Nat) : Int) == ((y2 : Nat) : Int)) = false := by rw [beq_eq_false_iff_ne]; omega
                      go_wp2_with fail
                      exact bodyPost_ret (results_tmp rfl _ _ _) rfl ⟨rfl, HF.out⟩
                  · have hq1 : (((x1 : Nat) : Int) == ((y1 : Nat) : Int)) = false := by rw [beq_eq_false_iff_ne]; omega
                    go_wp2_with fail
                    exact bodyPost_ret (results_tmp rfl _ _ _) rfl ⟨rfl, HF.out⟩
                · have hq3 : ((nk : Int) == mk) = false := by rw [beq_eq_false_iff_ne]; exact hkk
                  have hq4 : ((nk : Int) != mk) = true := by rw [bne, hq3]; rfl
                  go_wp2_with fail
                  exact bodyPost_ret (results_tmp rfl _ _ _) rfl ⟨rfl, HF.out⟩
end Go.Proofs.YtbklgijndjpgoaaDoor
