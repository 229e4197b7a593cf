/-
  LinkBrings's law.
-/
import Derived.Test.YtfknfpngcnianaaLkBrInv
import Derived.Test.YtfknfpngcnianaaLkAwake
import Derived.Test.YtfknfpngcnianaaHeldStep
import Derived.Deep.DeepCutAuto
namespace Go.Proofs.Ytfknfpngcnianaa
open Go.RowKit
set_option maxRecDepth 100000

theorem BP.keep {i : Nat} {s sr : Nat → Way} {S : Nat → List (List UInt8)} {T : List LA} (h : BP i s S T) (hg : Good sr (i + 1)) (hb : Brings sr S T) : BP (i + 1) sr S T :=
  ⟨hg, hb, h.fits, h.short, fun k => Nat.le_succ_of_le (h.lenS k), Nat.le_succ_of_le h.lenT⟩
theorem BP.sent {i k : Nat} {s sr : Nat → Way} {S : Nat → List (List UInt8)} {T : List LA} (h : BP i s S T) (hg : Good sr (i + 1)) {b : List UInt8} (hb : Brings sr (sentS S k b) T) (hl : b.length ≤ 100) : BP (i + 1) sr (sentS S k b) T := by
  refine ⟨hg, hb, h.fits, fun j x hx => ?_, fun j => ?_, Nat.le_succ_of_le h.lenT⟩
  · by_cases e : j = k
    · subst e
      rw [sentS_same] at hx
      rcases List.mem_append.1 hx with hx | hx
      · exact h.short _ x hx
      · obtain rfl : x = b := by simpa using hx
        exact hl
    · rw [sentS_other _ _ _ _ e] at hx
      exact h.short _ x hx
  · have := h.lenS j
    by_cases e : j = k
    · subst e
      rw [sentS_same, List.length_append]
      show _ + 1 ≤ _
      omega
    · rw [sentS_other _ _ _ _ e]
      omega
theorem BP.turned {i : Nat} {s sr : Nat → Way} {S : Nat → List (List UInt8)} {T : List LA} (h : BP i s S T) (hg : Good sr (i + 1)) {a : LA} (hb : Brings sr S (T ++ [a])) (hf : a.fits) : BP (i + 1) sr S (T ++ [a]) := by
  refine ⟨hg, hb, fun t ht => ?_, h.short, fun k => Nat.le_succ_of_le (h.lenS k), ?_⟩
  · rcases List.mem_append.1 ht with ht | ht
    · exact h.fits t ht
    · obtain rfl : t = a := by simpa using ht
      exact hf
  · have := h.lenT
    rw [List.length_append]
    show _ + 1 ≤ _
    omega
theorem row_apart {w : World} {base e size n g : Nat} {t : TypeId} {X : Array Value} {fr : Nat × Nat} {v : Value} {xs : List Value} (h : w.ownsRow base e size v n xs) (hg : w.heap[g]? = some (.cells X t fr)) (ht : t ≠ e) : some g ≠ v.ownBlock := by
  rcases h.2 with ⟨rfl, _⟩ | ⟨g', cap, cur, rfl, _, hgg, _⟩
  · simp [Value.ownBlock]
  · simp [Value.ownBlock]
    rintro rfl
    rw [hg] at hgg
    injection hgg with hgg
    injection hgg with _ h2
    exact ht h2
theorem Lk.off {w : World} {g b j : Nat} {s : Nat → Way} {v : Value} (hL : Lk w g s) (hb : g ≠ b) : Lk (w.setCell ⟨b, j, none⟩ v) g s := by
  obtain ⟨C, hC, h0, h1⟩ := hL
  have e : (w.setCell ⟨b, j, none⟩ v).heap[g]? = w.heap[g]? := heap_setCell_other w _ g v hb
  exact ⟨C, hC, ⟨e.trans h0.row, h0.size, h0.one, h0.at_, h0.few⟩, ⟨e.trans h1.row, h1.size, h1.one, h1.at_, h1.few⟩⟩
theorem len_0 {w : World} {g : Nat} {s : Nat → Way} (h : Lk w g s) : Calls Try.prog 10 #[.pointer (some ⟨g, 0, none⟩), .int .i64 0] w fun e w' => e = .returned (.int .i64 (s 0).l.length) ∧ w' = w := by
  obtain ⟨C, hC, hI, _⟩ := h.at_ (k := 0) (by decide)
  exact lkLen_in _ 0 g (0 * 35) C (s 0) w (fun W => on_in g 0 (by decide) W) hI
theorem len_1 {w : World} {g : Nat} {s : Nat → Way} (h : Lk w g s) : Calls Try.prog 10 #[.pointer (some ⟨g, 0, none⟩), .int .i64 1] w fun e w' => e = .returned (.int .i64 (s 1).l.length) ∧ w' = w := by
  obtain ⟨C, hC, hI, _⟩ := h.at_ (k := 1) (by decide)
  exact lkLen_in _ 1 g (1 * 35) C (s 1) w (fun W => on_in g 1 (by decide) W) hI
theorem Lk.grownO {w w' : World} {g : Nat} {r : Option Nat} {s : Nat → Way} (hL : Lk w g s) (hg : w.grownBy w' r) (hne : r ≠ some g) : Lk w' g s := by
  obtain ⟨C, hC, h0, h1⟩ := hL
  have e : w'.heap[g]? = w.heap[g]? := hg.block g (Array.getElem?_eq_some_iff.1 h0.row).1 (fun e => hne e.symm)
  exact ⟨C, hC, ⟨e.trans h0.row, h0.size, h0.one, h0.at_, h0.few⟩, ⟨e.trans h1.row, h1.size, h1.one, h1.at_, h1.few⟩⟩
set_option maxHeartbeats 16000000 in
theorem linkBrings_law (A : Option Addr) (l : List LA) (c : Nat) (W : World) (hA : RdLA W W.heap.size A l) (hf : ∀ a ∈ l, a.fits) (hm : (l.length : Int) ≤ 9223372036854775807) :
    Calls Try.prog 4 #[.slice A l.length c] W fun e w' => e = .returned (.bool true) ∧ Below W.heap.size W w' := by
  obtain ⟨i0, hi0, hz0, hz1, hz2⟩ := infoP_parts info_str
  obtain ⟨j0, hj0, hy0, hy1, hy2⟩ := infoP_parts info_act
  have HF := hide (few_any A l c W hA hm)
  have HAw := hide awake_any
  cases hfew : fewB l
  · rw [hfew] at HF
    clear hfew hA hf
    go_enter Try.func4, Try.ntmps4
    go_wp2_with fail
    refine HF.out.mono ?_
    rintro e w1 ⟨rfl, rfl⟩
    go_wp2_with fail
    refine (HAw.out _).mono ?_
    rintro e w2 ⟨rfl, hB⟩
    have HB := hide hB
    clear hB
    go_wp2_with fail
    exact bodyPost_ret (results_tmp rfl _ _ _) rfl ⟨rfl, HB.out⟩
  · have h60 := (fewB_of hfew).1
    have HBB := hide (fewB_of hfew).2
    rw [hfew] at HF
    have HN := hide (new_any W)
    have HI0 := hide (start_bm W zeroC)
    have HL0 := hide ((lk0 W).below (((Below.refl _ (W.alloc (.cells zeroC 56))).alloc (Nat.le_refl _) (.cells #[.slice none 0 0, .slice none 0 0] 47))))
    have HP0 := hide (show BP 0 s0 (fun _ => []) [] from ⟨good0 0, brings0, fun t ht => (List.not_mem_nil ht).elim, fun _ x hx => (List.not_mem_nil hx).elim, fun _ => Nat.le_refl _, Nat.le_refl _⟩)
    have HAr := hide hA
    have HFi := hide hf
    clear hfew hA hf
    go_enter Try.func4, Try.ntmps4
    go_wp2_with fail
    refine HF.out.mono ?_
    rintro e V ⟨rfl, rfl⟩
    go_wp2_with fail
    refine HN.out.mono ?_
    rintro e w2 ⟨rfl, rfl⟩
    go_wp2_with fail
    generalize ((V.alloc (.cells zeroC 56)).alloc (.cells #[.slice none 0 0, .slice none 0 0] 47)) = w2 at HI0 HL0 ⊢
    go_loopw [5, 6] (fun tv iv wr => ∃ (i : Nat) (s : Nat → Way) (S : Nat → List (List UInt8)) (T : List LA) (X : Array Value), i ≤ l.length ∧ iv = .int .i64 i ∧ Hid (BP i s S T) ∧ Hid (Lk wr V.heap.size s) ∧ Hid (BM V S T X tv wr)) (fun _ iv _ => l.length - (intOf iv).toNat)
    case atStart => exact ⟨0, s0, _, _, _, Nat.zero_le _, rfl, HP0, HL0, HI0⟩
    case round =>
      clear HI0 HL0 HP0
      obtain ⟨i, s, S, T, X, hi, rfl, HP, HL, HI⟩ := hrel
      obtain ⟨At, ct, rfl, HTn⟩ := HI.out.turn
      clear HTn
      by_cases hlt : (i : Int) < l.length
      · have hx := List.getElem?_eq_getElem (show i < l.length by omega)
        obtain ⟨gb, ob, rfl, hgb, hc⟩ := HAr.out i _ hx
        have HB1 := hide (HBB.out l[i] (List.getElem_mem _))
        have HF1 := hide (HFi.out l[i] (List.getElem_mem _))
        have hbl := HI.out.below
        have hcc := fun j v hv => (hbl.cell (p := ⟨gb, ob + i * 6 + j, none⟩) hgb).trans (hc j v hv)
        generalize l[i] = a at *
        obtain ⟨kd, wy, ai, at_, mask, b⟩ := a
        have e0 : wr.cell? ⟨gb, ob + i * 6, none⟩ = some (.int .i64 kd) := hcc 0 _ rfl
        have e1 : wr.cell? ⟨gb, ob + i * 6 + 1, none⟩ = some (.int .i64 wy) := hcc 1 _ rfl
        have e2 : wr.cell? ⟨gb, ob + i * 6 + 2, none⟩ = some (.int .i64 ai) := hcc 2 _ rfl
        have e3 : wr.cell? ⟨gb, ob + i * 6 + 3, none⟩ = some (.int .i64 at_) := hcc 3 _ rfl
        have e4 : wr.cell? ⟨gb, ob + i * 6 + 4, none⟩ = some (.int .u32 mask) := hcc 4 _ rfl
        have e5 : wr.cell? ⟨gb, ob + i * 6 + 5, none⟩ = some (.string (ofL b)) := hcc 5 _ rfl
        have hfit : -9223372036854775808 ≤ at_ ∧ at_ ≤ 9223372036854775807 ∧ mask < 4294967296 := HF1.out
        have hbb : b.length ≤ 100 := HB1.out
        have HG := hide (And.intro hfit hbb)
        clear hx hc hcc hbl HB1 HF1 hfit hbb
        have hB := (Below.refl wr.heap.size wr).alloc (Nat.le_refl _) (.cells #[.int .i64 kd, .int .i64 wy, .int .i64 ai, .int .i64 at_, .int .u32 mask, .string (ofL b)] 34)
        have ra := World.alloc_heap_new wr (.cells #[.int .i64 kd, .int .i64 wy, .int .i64 ai, .int .i64 at_, .int .u32 mask, .string (ofL b)] 34)
        have HI1 := hide (HI.out.step hB)
        have HL1 := hide (HL.out.below hB)
        have hdo := do_any V.heap.size s kd wy ai at_ mask b i _ HL1.out HP.out.good (by omega) HG.out.1.1 HG.out.1.2.1 HG.out.1.2.2
        unfold actC at hdo
        have HDo := hide hdo
        have HRA := hide ra
        have HLT := hide (show V.heap.size < wr.heap.size from HL.out.lt)
        have HGV := hide (show V.heap.size + 1 < wr.heap.size from HI.out.lt)
        have HTB := hide (fun x (h : (Value.slice At T.length ct).ownBlock = some x) => (HI.out.turns.lt x h).2)
        have HBr := hide (HP.out.br.step ⟨kd, wy, ai, at_, mask, b⟩ _ rfl)
        have HGd := hide (HP.out.good.step kd wy ai at_ mask b HG.out.2)
        simp only at HBr
        obtain ⟨r, hr⟩ : ∃ r, r = stepS s kd wy ai at_ mask b := ⟨_, rfl⟩
        rw [← hr] at HDo HBr HGd
        obtain ⟨sr, lr, okr⟩ := r
        clear hdo hr hB ra HI HL
        go_upto_region 10 with fail
        clear e0 e1 e2 e3 e4 e5
        generalize wr.alloc (.cells #[.int .i64 kd, .int .i64 wy, .int .i64 ai, .int .i64 at_, .int .u32 mask, .string (ofL b)] 34) = w3 at HI1 HL1 HDo HRA ⊢
        obtain ⟨ga, hga⟩ : ∃ ga, ga = wr.heap.size := ⟨_, rfl⟩
        rw [← hga] at HRA HLT HTB HGV ⊢
        clear hga HL1
        have ra := HRA.out
        have e0 := cell_of_row _ _ 0 _ _ _ ra
        have e1 := cell_of_row _ _ 1 _ _ _ ra
        have e2 := cell_of_row _ _ 2 _ _ _ ra
        have e3 := cell_of_row _ _ 3 _ _ _ ra
        have e4 := cell_of_row _ _ 4 _ _ _ ra
        have e5 := cell_of_row _ _ 5 _ _ _ ra
        clear ra
        go_wp2_with fail
        refine HDo.out.mono ?_
        rintro e w4 ⟨rfl, hlk, hgr⟩
        have HRA2 := hide ((hgr.block _ (Array.getElem?_eq_some_iff.1 HRA.out).1 (fun e => by injection e with e; have := HLT.out; omega)).trans HRA.out)
        have HI2 := hide (HI1.out.called hgr)
        have HL2 := hide hlk
        clear e0 e1 e2 e3 e4 e5 hgr hlk HDo HI1 HRA
        have h16a : ¬ (16 : Int) < ((sr 0).l.length : Int) := by have := HGd.out.len 0; omega
        have h16b : ¬ (16 : Int) < ((sr 1).l.length : Int) := by have := HGd.out.len 1; omega
        have HRow := hide (fun (W : World) (j : Nat) (v : Value) (h : W.heap[ga]? = some (.cells #[.int .i64 kd, .int .i64 wy, .int .i64 ai, .int .i64 at_, .int .u32 mask, .string (ofL b)] 34 (0, 0))) (hv : (#[Value.int .i64 kd, .int .i64 wy, .int .i64 ai, .int .i64 at_, .int .u32 mask, .string (ofL b)] : Array Value)[j]? = some v) => cell_row h hv)
        have hways : (kd = 0 ∧ okr = true) ∨ ((kd = 0 ∧ okr = false) ∨ (kd = 1 ∧ okr = false) ∨ kd = 2 ∨ kd = 3) ∨ (kd = 1 ∧ okr = true) ∨ kd < 0 ∨ (¬ kd < 0 ∧ 3 < kd) := by
          cases okr <;> simp <;> omega
        generalize hS : ofL lr = sb
        have HSb := hide hS
        clear hS
        rcases hways with ⟨rfl, rfl⟩ | hq | ⟨rfl, rfl⟩ | hneg | ⟨hpos, hmore⟩
        · obtain ⟨k, hk, rfl, hbr⟩ := HBr.out.1 rfl rfl
          rw [if_neg (by decide)] at hbr
          have HP5 := hide (HP.out.sent HGd.out hbr HG.out.2)
          clear hbr HBr
          have hk2 : (k : Int) < 2 := by omega
          have e0 : w4.cell? ⟨ga, 0, none⟩ = _ := cell_of_row _ _ 0 _ _ _ HRA2.out
          go_upto_region 12 with fail
          clear e0
          obtain ⟨v, hv, hown⟩ := HI2.out.own k hk
          obtain ⟨A0, c0, rfl⟩ := ownsRow_slice hown
          have hn60 : (S k).length ≤ 60 := by have := HP.out.lenS k; omega
          have hV4 := HI2.out.lt
          have HVR := hide (fun (W : World) (hr : W.heap[ga]? = some (.cells #[.int .i64 0, .int .i64 k, .int .i64 ai, .int .i64 at_, .int .u32 mask, .string (ofL b)] 34 (0, 0))) => (⟨cell_row hr rfl, cell_row hr rfl⟩ : W.cell? ⟨ga, 1, none⟩ = some (.int .i64 k) ∧ W.cell? ⟨ga, 5, none⟩ = some (.string (ofL b))))
          have HVB := hide (fun (W : World) (bb : Below w4.heap.size w4 W) => HVR.out W ((bb.block _ (Array.getElem?_eq_some_iff.1 HRA2.out).1).trans HRA2.out))
          have HVC := hide (fun (W : World) (bb : Below w4.heap.size w4 W) => (cell_row ((bb.block _ hV4).trans HI2.out.row) hv : W.cell? ⟨V.heap.size + 1, k, none⟩ = some (.slice A0 (S k).length c0)))
          have hS := HVB.out _ (Below.refl w4.heap.size w4).drew
          have hB0 := (Below.refl w4.heap.size w4).drew
          refine wp_region_held (by kernel_rfl) (S := fun W => W.cell? ⟨ga, 1, none⟩ = some (.int .i64 k) ∧ W.cell? ⟨ga, 5, none⟩ = some (.string (ofL b))) ?_
          change wpAnyH _ _ _ _ _ _ _ _ (World.drew _)
          refine wpAnyH_take (i := 0) (v := .pointer (some ⟨ga, 1, none⟩)) rfl (by kernel_rfl) (by kernel_rfl) (by kernel_rfl) (fun _ _ _ h => h) (Or.inl ⟨by kernel_rfl, ?_⟩) hS ?_
          · intro W hS; obtain ⟨s0, s1⟩ := hS; go_simp; try with_reducible rfl
          try simp only [Act.put, List.getElem_toArray, List.getElem_cons_zero, List.setIfInBounds_toArray, List.set_cons_zero, List.set_cons_succ]
          refine wpAnyH_take (i := 1) (v := .int .i64 k) rfl (by kernel_rfl) (by kernel_rfl) (by kernel_rfl) (fun _ _ _ h => h) (Or.inl ⟨by kernel_rfl, ?_⟩) hS ?_
          · intro W hS; obtain ⟨s0, s1⟩ := hS; go_simp; try with_reducible rfl
          try simp only [Act.put, List.getElem_toArray, List.getElem_cons_succ, List.getElem_cons_zero, List.setIfInBounds_toArray, List.set_cons_zero, List.set_cons_succ]
          refine wpAnyH_take (i := 2) (v := .pointer (some ⟨ga, 1, none⟩)) rfl (by kernel_rfl) (by kernel_rfl) (by kernel_rfl) (fun _ _ _ h => h) (Or.inl ⟨by kernel_rfl, ?_⟩) hS ?_
          · intro W hS; obtain ⟨s0, s1⟩ := hS; go_simp; try with_reducible rfl
          try simp only [Act.put, List.getElem_toArray, List.getElem_cons_succ, List.getElem_cons_zero, List.setIfInBounds_toArray, List.set_cons_zero, List.set_cons_succ]
          refine wpAnyH_take (i := 3) (v := .int .i64 k) rfl (by kernel_rfl) (by kernel_rfl) (by kernel_rfl) (fun _ _ _ h => h) (Or.inl ⟨by kernel_rfl, ?_⟩) hS ?_
          · intro W hS; obtain ⟨s0, s1⟩ := hS; go_simp; try with_reducible rfl
          try simp only [Act.put, List.getElem_toArray, List.getElem_cons_succ, List.getElem_cons_zero, List.setIfInBounds_toArray, List.set_cons_zero, List.set_cons_succ]
          refine wpAnyH_take (i := 4) (v := .pointer (some ⟨V.heap.size + 1, k, none⟩)) rfl (by kernel_rfl) (by kernel_rfl) (by kernel_rfl) (fun _ _ _ h => h) (Or.inl ⟨by kernel_rfl, ?_⟩) hS ?_
          · intro W hS; obtain ⟨s0, s1⟩ := hS; go_simp; try with_reducible rfl
          try simp only [Act.put, List.getElem_toArray, List.getElem_cons_succ, List.getElem_cons_zero, List.setIfInBounds_toArray, List.set_cons_zero, List.set_cons_succ]
          refine wpAnyH_take (i := 6) (v := .pointer (some ⟨ga, 5, none⟩)) rfl (by kernel_rfl) (by kernel_rfl) (by kernel_rfl) (fun _ _ _ h => h) (Or.inl ⟨by kernel_rfl, ?_⟩) hS ?_
          · intro W hS; obtain ⟨s0, s1⟩ := hS; go_simp; try with_reducible rfl
          try simp only [Act.put, List.getElem_toArray, List.getElem_cons_succ, List.getElem_cons_zero, List.setIfInBounds_toArray, List.set_cons_zero, List.set_cons_succ]
          refine wpAnyH_take (i := 7) (v := .string (ofL b)) rfl (by kernel_rfl) (by kernel_rfl) (by kernel_rfl) (fun _ _ _ h => h) (Or.inl ⟨by kernel_rfl, ?_⟩) hS ?_
          · intro W hS; obtain ⟨s0, s1⟩ := hS; go_simp; try with_reducible rfl
          try simp only [Act.put, List.getElem_toArray, List.getElem_cons_succ, List.getElem_cons_zero, List.setIfInBounds_toArray, List.set_cons_zero, List.set_cons_succ]
          clear hS
          generalize World.drew w4 = U0 at hB0 ⊢
          have hown0 := own_below hown hB0
          refine heldS_two (i := 5) (k := 8) (by kernel_rfl) rfl rfl (fun K hK => ?_) (fun K hK => ?_)
          · have c5 := HVC.out _ hB0
            go_simp
            refine hK _ _ (HVB.out _ hB0) ?_
            clear hK K c5
            try simp only [Act.put, List.getElem_toArray, List.getElem_cons_succ, List.getElem_cons_zero, List.setIfInBounds_toArray, List.set_cons_zero, List.set_cons_succ]
            refine heldS_one (i := 8) (by kernel_rfl) rfl (fun K hK => ?_)
            go_simp
            have hB1 := hB0.alloc hB0.size (.cells #[.string (ofL b)] 9)
            have hown1 := hown0.alloc (.cells #[.string (ofL b)] 9)
            have hnew := cell_one_new U0 (.string (ofL b)) 9
            refine hK _ _ (HVB.out _ hB1) ?_
            clear hK K
            try simp only [Act.put, List.getElem_toArray, List.getElem_cons_succ, List.getElem_cons_zero, List.setIfInBounds_toArray, List.set_cons_zero, List.set_cons_succ]
            obtain ⟨g1, hg1⟩ : ∃ g1, g1 = U0.heap.size := ⟨_, rfl⟩
            rw [← hg1] at hnew ⊢
            clear hg1
            generalize U0.alloc (.cells #[.string (ofL b)] 9) = U1 at hB1 hown1 hnew ⊢
            have hsz1 : V.heap.size + 2 ≤ U1.heap.size := Nat.le_trans hV4 hB1.size
            refine heldS_one (i := 9) (by kernel_rfl) rfl (fun K hK => ?_)
            refine step_append_lies _ rfl (.tmp 45) (.tmp 48) 46 rfl (V.heap.size + 2) 9 i0 _ 1 16 Try.underlying46 hi0 hz0 hz1 hz2 rfl (by decide) _ (S k).length _ rfl hown1 ⟨g1, 0, none⟩ 1 1 [.string (ofL b)] rfl rfl hnew (by simp [Value.oneCell']) (by decide) (by unfold maxLen; omega) (by omega) hsz1 _ rfl ?_
            intro g cap U2 hO hg hfr hlt2
            have hg : U1.grownBy U2 (Value.slice A0 (S k).length c0).ownBlock := hg
            have hfr : (Value.slice A0 (S k).length c0).ownBlock = some g ∨ g = U1.heap.size := hfr
            have hO : U2.ownsRow (V.heap.size + 2) 9 1 (.slice (some ⟨g, 0, none⟩) ((S k).length + 1) cap) ((S k).length + 1) (strsL (S k) ++ [.string (ofL b)]) := hO
            have hoff : ∀ x, (Value.slice A0 (S k).length c0).ownBlock = some x → V.heap.size + 2 ≤ x ∧ x < w4.heap.size := hown.lt
            have HG2 := hide (fun x (hx : x < w4.heap.size) (hne : some x ≠ (Value.slice A0 (S k).length c0).ownBlock) => (hg.block x (Nat.lt_of_lt_of_le hx hB1.size) hne).trans (hB1.block x hx))
            have hrow2 : U2.heap[V.heap.size + 1]? = some (.cells X 47 (0, 0)) := (HG2.out _ hV4 (fun e => by have := (hoff _ e.symm).1; omega)).trans HI2.out.row
            have HI5 := hide (HI2.out.sent hk hv b hB1 hO hg hfr)
            have HR2 := hide ((HG2.out _ (Array.getElem?_eq_some_iff.1 HRA2.out).1 (row_apart hown HRA2.out (by decide))).trans HRA2.out)
            have HL5 := hide (((HL2.out.below hB1).grownO hg (fun e => by have := (hoff _ e).1; omega)).off (b := V.heap.size + 1) (j := k) (v := .slice (some ⟨g, 0, none⟩) ((S k).length + 1) cap) (by omega))
            have HR5 : Hid ((U2.setCell ⟨V.heap.size + 1, k, none⟩ (.slice (some ⟨g, 0, none⟩) ((S k).length + 1) cap)).heap[ga]? = _) := hide (row_beside (by have := HI2.out.lt; have := HGV.out; omega) HR2.out)
            refine hK _ _ (HVR.out _ HR2.out) ?_
            clear hK K hO hg hfr hlt2 HG2
            try simp only [Act.put, List.getElem_toArray, List.getElem_cons_succ, List.getElem_cons_zero, List.setIfInBounds_toArray, List.set_cons_zero, List.set_cons_succ]
            have hS := HVR.out _ HR2.out
            refine wpAnyH_take (i := 10) (v := .pointer (some ⟨V.heap.size + 1, k, none⟩)) rfl (by kernel_rfl) (by kernel_rfl) (by kernel_rfl) (fun _ _ _ h => h) (Or.inl ⟨by kernel_rfl, ?_⟩) hS ?_
            · intro W hS; obtain ⟨s0, s1⟩ := hS; go_simp; try with_reducible rfl
            try simp only [Act.put, List.getElem_toArray, List.getElem_cons_succ, List.getElem_cons_zero, List.setIfInBounds_toArray, List.set_cons_zero, List.set_cons_succ]
            clear hS
            have c11 : U2.cell? ⟨V.heap.size + 1, k, none⟩ = some (.slice A0 (S k).length c0) := cell_row hrow2 hv
            have z11 : U2.frozen? ⟨V.heap.size + 1, k, none⟩ = false := frozen_of_row _ _ _ _ _ hrow2
            refine heldS_one (i := 11) (by kernel_rfl) rfl (fun K hK => ?_)
            go_simp
            refine hK _ _ (HVR.out _ HR5.out) ?_
            clear hK K c11 z11 hrow2
            try simp only [Act.put, List.getElem_toArray, List.getElem_cons_succ, List.getElem_cons_zero, List.setIfInBounds_toArray, List.set_cons_zero, List.set_cons_succ]
            refine wpAnyH_done (by kernel_rfl) ?_ _
            clear hB0 hB1 hown0 hown1 hnew hsz1 hown hV4 hoff HVB HVC HVR HI2 HL2 HRA2 HTB HR2 hv
            generalize U2.setCell ⟨V.heap.size + 1, k, none⟩ (.slice (some ⟨g, 0, none⟩) ((S k).length + 1) cap) = U3 at HI5 HL5 HR5 ⊢
            have e0 : U3.cell? ⟨ga, 0, none⟩ = _ := cell_of_row _ _ 0 _ _ _ HR5.out
            go_wp2_with fail
            refine (len_0 HL5.out).mono ?_
            rintro e wx ⟨rfl, hwx⟩
            obtain rfl := hwx
            go_wp2_with fail
            refine (len_1 HL5.out).mono ?_
            rintro e wx ⟨rfl, hwx⟩
            obtain rfl := hwx
            go_wp2_with fail
            go_roundw
            case rel => exact ⟨i + 1, sr, _, T, _, by omega, rfl, HP5, HL5, HI5⟩
            case measure => simp [intOf]; omega
          · go_simp
            have hB1 := hB0.alloc hB0.size (.cells #[.string (ofL b)] 9)
            have hown1 := hown0.alloc (.cells #[.string (ofL b)] 9)
            have hnew := cell_one_new U0 (.string (ofL b)) 9
            refine hK _ _ (HVB.out _ hB1) ?_
            clear hK K
            try simp only [Act.put, List.getElem_toArray, List.getElem_cons_succ, List.getElem_cons_zero, List.setIfInBounds_toArray, List.set_cons_zero, List.set_cons_succ]
            obtain ⟨g1, hg1⟩ : ∃ g1, g1 = U0.heap.size := ⟨_, rfl⟩
            rw [← hg1] at hnew ⊢
            clear hg1
            generalize U0.alloc (.cells #[.string (ofL b)] 9) = U1 at hB1 hown1 hnew ⊢
            refine heldS_one (i := 5) (by kernel_rfl) rfl (fun K hK => ?_)
            have c5 := HVC.out _ hB1
            go_simp
            refine hK _ _ (HVB.out _ hB1) ?_
            clear hK K c5
            try simp only [Act.put, List.getElem_toArray, List.getElem_cons_succ, List.getElem_cons_zero, List.setIfInBounds_toArray, List.set_cons_zero, List.set_cons_succ]
            have hsz1 : V.heap.size + 2 ≤ U1.heap.size := Nat.le_trans hV4 hB1.size
            refine heldS_one (i := 9) (by kernel_rfl) rfl (fun K hK => ?_)
            refine step_append_lies _ rfl (.tmp 45) (.tmp 48) 46 rfl (V.heap.size + 2) 9 i0 _ 1 16 Try.underlying46 hi0 hz0 hz1 hz2 rfl (by decide) _ (S k).length _ rfl hown1 ⟨g1, 0, none⟩ 1 1 [.string (ofL b)] rfl rfl hnew (by simp [Value.oneCell']) (by decide) (by unfold maxLen; omega) (by omega) hsz1 _ rfl ?_
            intro g cap U2 hO hg hfr hlt2
            have hg : U1.grownBy U2 (Value.slice A0 (S k).length c0).ownBlock := hg
            have hfr : (Value.slice A0 (S k).length c0).ownBlock = some g ∨ g = U1.heap.size := hfr
            have hO : U2.ownsRow (V.heap.size + 2) 9 1 (.slice (some ⟨g, 0, none⟩) ((S k).length + 1) cap) ((S k).length + 1) (strsL (S k) ++ [.string (ofL b)]) := hO
            have hoff : ∀ x, (Value.slice A0 (S k).length c0).ownBlock = some x → V.heap.size + 2 ≤ x ∧ x < w4.heap.size := hown.lt
            have HG2 := hide (fun x (hx : x < w4.heap.size) (hne : some x ≠ (Value.slice A0 (S k).length c0).ownBlock) => (hg.block x (Nat.lt_of_lt_of_le hx hB1.size) hne).trans (hB1.block x hx))
            have hrow2 : U2.heap[V.heap.size + 1]? = some (.cells X 47 (0, 0)) := (HG2.out _ hV4 (fun e => by have := (hoff _ e.symm).1; omega)).trans HI2.out.row
            have HI5 := hide (HI2.out.sent hk hv b hB1 hO hg hfr)
            have HR2 := hide ((HG2.out _ (Array.getElem?_eq_some_iff.1 HRA2.out).1 (row_apart hown HRA2.out (by decide))).trans HRA2.out)
            have HL5 := hide (((HL2.out.below hB1).grownO hg (fun e => by have := (hoff _ e).1; omega)).off (b := V.heap.size + 1) (j := k) (v := .slice (some ⟨g, 0, none⟩) ((S k).length + 1) cap) (by omega))
            have HR5 : Hid ((U2.setCell ⟨V.heap.size + 1, k, none⟩ (.slice (some ⟨g, 0, none⟩) ((S k).length + 1) cap)).heap[ga]? = _) := hide (row_beside (by have := HI2.out.lt; have := HGV.out; omega) HR2.out)
            refine hK _ _ (HVR.out _ HR2.out) ?_
            clear hK K hO hg hfr hlt2 HG2
            try simp only [Act.put, List.getElem_toArray, List.getElem_cons_succ, List.getElem_cons_zero, List.setIfInBounds_toArray, List.set_cons_zero, List.set_cons_succ]
            have hS := HVR.out _ HR2.out
            refine wpAnyH_take (i := 10) (v := .pointer (some ⟨V.heap.size + 1, k, none⟩)) rfl (by kernel_rfl) (by kernel_rfl) (by kernel_rfl) (fun _ _ _ h => h) (Or.inl ⟨by kernel_rfl, ?_⟩) hS ?_
            · intro W hS; obtain ⟨s0, s1⟩ := hS; go_simp; try with_reducible rfl
            try simp only [Act.put, List.getElem_toArray, List.getElem_cons_succ, List.getElem_cons_zero, List.setIfInBounds_toArray, List.set_cons_zero, List.set_cons_succ]
            clear hS
            have c11 : U2.cell? ⟨V.heap.size + 1, k, none⟩ = some (.slice A0 (S k).length c0) := cell_row hrow2 hv
            have z11 : U2.frozen? ⟨V.heap.size + 1, k, none⟩ = false := frozen_of_row _ _ _ _ _ hrow2
            refine heldS_one (i := 11) (by kernel_rfl) rfl (fun K hK => ?_)
            go_simp
            refine hK _ _ (HVR.out _ HR5.out) ?_
            clear hK K c11 z11 hrow2
            try simp only [Act.put, List.getElem_toArray, List.getElem_cons_succ, List.getElem_cons_zero, List.setIfInBounds_toArray, List.set_cons_zero, List.set_cons_succ]
            refine wpAnyH_done (by kernel_rfl) ?_ _
            clear hB0 hB1 hown0 hown1 hnew hsz1 hown hV4 hoff HVB HVC HVR HI2 HL2 HRA2 HTB HR2 hv
            generalize U2.setCell ⟨V.heap.size + 1, k, none⟩ (.slice (some ⟨g, 0, none⟩) ((S k).length + 1) cap) = U3 at HI5 HL5 HR5 ⊢
            have e0 : U3.cell? ⟨ga, 0, none⟩ = _ := cell_of_row _ _ 0 _ _ _ HR5.out
            go_wp2_with fail
            refine (len_0 HL5.out).mono ?_
            rintro e wx ⟨rfl, hwx⟩
            obtain rfl := hwx
            go_wp2_with fail
            refine (len_1 HL5.out).mono ?_
            rintro e wx ⟨rfl, hwx⟩
            obtain rfl := hwx
            go_wp2_with fail
            go_roundw
            case rel => exact ⟨i + 1, sr, _, T, _, by omega, rfl, HP5, HL5, HI5⟩
            case measure => simp [intOf]; omega
        · have HP5 := hide (HP.out.keep HGd.out (by
            have := HBr.out.2.1 (by rcases hq with ⟨_, rfl⟩ | ⟨rfl, _⟩ | rfl | rfl <;> simp)
            rw [if_neg (by rcases hq with ⟨rfl, _⟩ | ⟨rfl, _⟩ | rfl | rfl <;> decide)] at this
            exact this))
          have e0 : w4.cell? ⟨ga, 0, none⟩ = _ := cell_of_row _ _ 0 _ _ _ HRA2.out
          rcases hq with ⟨rfl, rfl⟩ | ⟨rfl, rfl⟩ | rfl | rfl
          all_goals
            go_wp2_with fail
            refine (len_0 HL2.out).mono ?_
            rintro e wx ⟨rfl, hwx⟩
            obtain rfl := hwx
            go_wp2_with fail
            refine (len_1 HL2.out).mono ?_
            rintro e wx ⟨rfl, hwx⟩
            obtain rfl := hwx
            go_wp2_with fail
            go_roundw
            case rel => exact ⟨i + 1, sr, S, T, X, by omega, rfl, HP5, HL2, HI2⟩
            case measure => simp [intOf]; omega
        · obtain ⟨k, hk, rfl, hfd⟩ := HBr.out.2.2 rfl rfl
          have hbr := HBr.out.2.1 (by simp)
          rw [if_neg (by decide)] at hbr
          have HP5 := hide (HP.out.keep HGd.out hbr)
          have HFd := hide (foundB_yes hfd)
          rw [HSb.out] at HFd
          clear hbr hfd HBr
          have hk2 : (k : Int) < 2 := by omega
          obtain ⟨Ax, cx, hX, hTx⟩ := HI2.out.text hk
          obtain ⟨A2, c2, hteq, hTt⟩ := HI2.out.turn
          injection hteq with hA2 _ hc2
          subst hA2 hc2
          have hn60 : (S k).length ≤ 60 := by have := HP.out.lenS k; omega
          have ht60 : T.length ≤ 60 := by have := HP.out.lenT; omega
          have HTx := hide hTx
          have HTt := hide hTt
          have hV4 := HI2.out.lt
          have HE1 := hide (fun (W : World) (bb : Below w4.heap.size w4 W) => (⟨cell_row ((bb.block _ (Array.getElem?_eq_some_iff.1 HRA2.out).1).trans HRA2.out) rfl, cell_row ((bb.block _ hV4).trans HI2.out.row) hX⟩ : W.cell? ⟨ga, 1, none⟩ = some (.int .i64 k) ∧ W.cell? ⟨V.heap.size + 1, k, none⟩ = some (.slice Ax (S k).length cx)))
          have e0 : w4.cell? ⟨ga, 0, none⟩ = _ := cell_of_row _ _ 0 _ _ _ HRA2.out
          clear hX hTx hTt hV4
          go_upto_region 15 with fail
          go_wp2_with fail
          refine (len_0 HL2.out).mono ?_
          rintro e wx ⟨rfl, hwx⟩
          obtain rfl : w4 = wx := hwx.symm
          go_wp2_with fail
          refine (len_1 HL2.out).mono ?_
          rintro e wx ⟨rfl, hwx⟩
          obtain rfl : w4 = wx := hwx.symm
          go_upto_region 19 with fail
          go_wp2_with fail
          clear e0
          go_loopw [10, 11] (fun fv kv wq => ∃ j : Nat, j ≤ (S k).length ∧ kv = .int .i64 j ∧ fv = .bool (foundB ((S k).take j) T sb) ∧ Hid (Below w4.heap.size w4 wq)) (fun _ kv _ => (S k).length - (intOf kv).toNat)
          case atStart => exact ⟨0, Nat.zero_le _, rfl, rfl, hide (Below.refl _ _)⟩
          case round =>
            obtain ⟨j, hj, rfl, rfl, HBq⟩ := hrel
            have s0 := (HE1.out _ HBq.out).1
            have s1 := (HE1.out _ HBq.out).2
            by_cases hjl : (j : Int) < (S k).length
            · have hx := List.getElem?_eq_getElem (show j < (S k).length by omega)
              obtain ⟨gx, ox, rfl, hgx, hcx⟩ := HTx.out j _ hx
              have HFs := hide (fun (G : Bool) (h : G = ((foundB ((S k).take j) T sb || (ofL (S k)[j]).toList == sb.toList) || T.any fun t => (ofL (turnL (S k)[j] t.at_ t.mask)).toList == sb.toList)) => h.trans (foundB_step (S k) T sb j _ hx).symm)
              have HXl := hide (HP.out.short k _ (List.getElem_mem (show j < (S k).length by omega)))
              have s2 : wr.cell? ⟨gx, ox + j, none⟩ = _ := (HBq.out.cell (p := ⟨gx, ox + j, none⟩) hgx).trans hcx
              have HCx := hide hcx
              have HGx := hide hgx
              generalize (S k)[j] = x at *
              obtain ⟨F, hF⟩ : ∃ F, F = foundB ((S k).take j) T sb := ⟨_, rfl⟩
              rw [← hF] at HFs ⊢
              clear hx hgx hcx hF
              have hj60 : (j : Int) ≤ 60 := by omega
              go_upto_region 22 with fail
              go_cut [10] (fun fv wx => fv = .bool (F || (ofL x).toList == sb.toList) ∧ wr = wx)
              case first =>
                cases F
                · go_wp2_with fail
                  go_meet
                  case rel => exact ⟨rfl, rfl⟩
                · go_wp2_with fail
                  go_meet
                  case rel => exact ⟨rfl, rfl⟩
              case rest =>
                obtain ⟨rfl, rfl⟩ := hcut
                generalize (F || (ofL x).toList == sb.toList) = F2 at HFs ⊢
                clear s0 s1 s2
                go_upto_region 23 with fail
                go_wp2_with fail
                go_loopw [10, 12] (fun fv tv wq2 => ∃ t : Nat, t ≤ T.length ∧ tv = .int .i64 t ∧ fv = .bool (F2 || (T.take t).any fun y => (ofL (turnL x y.at_ y.mask)).toList == sb.toList) ∧ Hid (Below w4.heap.size w4 wq2)) (fun _ tv _ => T.length - (intOf tv).toNat)
                case atStart => exact ⟨0, Nat.zero_le _, rfl, by rw [List.take_zero]; simp, HBq⟩
                case round =>
                  clear HBq
                  obtain ⟨t, ht, rfl, rfl, HBt⟩ := hrel
                  by_cases htl : (t : Int) < T.length
                  · have hy := List.getElem?_eq_getElem (show t < T.length by omega)
                    obtain ⟨gt, ot, rfl, hgt, hc3, hc4⟩ := HTt.out t _ hy
                    have HAt := hide (any_step T (fun y => (ofL (turnL x y.at_ y.mask)).toList == sb.toList) t _ hy)
                    have HTf := hide (HP.out.fits _ (List.getElem_mem (show t < T.length by omega)))
                    have HC3 := hide (And.intro hgt (And.intro hc3 hc4))
                    generalize T[t] = tk at *
                    have HTu := hide (fun W => refTurn_any x tk.at_ tk.mask W (by have := HXl.out; omega) HTf.out.1 HTf.out.2.1 HTf.out.2.2)
                    have HSV := hide (fun (W : World) (bb : Below w4.heap.size w4 W) => (⟨(HE1.out W bb).1, (HE1.out W bb).2, (bb.cell (p := ⟨gx, ox + j, none⟩) HGx.out).trans HCx.out, (bb.cell (p := ⟨gt, ot + t * 6 + 3, none⟩) HC3.out.1).trans HC3.out.2.1, (bb.cell (p := ⟨gt, ot + t * 6 + 4, none⟩) HC3.out.1).trans HC3.out.2.2⟩ : W.cell? ⟨ga, 1, none⟩ = some (.int .i64 k) ∧ W.cell? ⟨V.heap.size + 1, k, none⟩ = some (.slice (some ⟨gx, ox, none⟩) (S k).length cx) ∧ W.cell? ⟨gx, ox + j, none⟩ = some (.string (ofL x)) ∧ W.cell? ⟨gt, ot + t * 6 + 3, none⟩ = some (.int .i64 tk.at_) ∧ W.cell? ⟨gt, ot + t * 6 + 4, none⟩ = some (.int .u32 tk.mask)))
                    clear hy hgt hc3 hc4
                    have ht60' : (t : Int) ≤ 60 := by omega
                    obtain ⟨G, hG⟩ : ∃ G, G = (F2 || (T.take t).any fun y => (ofL (turnL x y.at_ y.mask)).toList == sb.toList) := ⟨_, rfl⟩
                    rw [← hG]
                    have HGe := hide hG
                    clear hG
                    go_upto_region 26 with fail
                    have HEq := hide (show (F2 || (T.take (t + 1)).any fun y => (ofL (turnL x y.at_ y.mask)).toList == sb.toList) = (G || (ofL (turnL x tk.at_ tk.mask)).toList == sb.toList) by rw [HAt.out, HGe.out, Bool.or_assoc])
                    cases G
                    · refine wp_region_held (by kernel_rfl) (S := fun W => W.cell? ⟨ga, 1, none⟩ = some (.int .i64 k) ∧ W.cell? ⟨V.heap.size + 1, k, none⟩ = some (.slice (some ⟨gx, ox, none⟩) (S k).length cx) ∧ W.cell? ⟨gx, ox + j, none⟩ = some (.string (ofL x)) ∧ W.cell? ⟨gt, ot + t * 6 + 3, none⟩ = some (.int .i64 tk.at_) ∧ W.cell? ⟨gt, ot + t * 6 + 4, none⟩ = some (.int .u32 tk.mask)) ?_
                      change wpAnyH _ _ _ _ _ _ _ _ (World.drew _)
                      have hS := HSV.out _ (HBt.out.trans ((Below.refl wr.heap.size wr).drew.mono HBt.out.size))
                      refine wpAnyH_take (i := 0) (v := .bool false) rfl (by kernel_rfl) (by kernel_rfl) (by kernel_rfl) (fun _ _ _ h => h) (Or.inl ⟨by kernel_rfl, ?_⟩) hS ?_
                      · intro W hS; obtain ⟨s0, s1, s2, s3, s4⟩ := hS; go_simp; try with_reducible rfl
                      try simp only [Act.put, List.getElem_toArray, List.getElem_cons_zero, List.setIfInBounds_toArray, List.set_cons_zero, List.set_cons_succ]
                      refine wpAnyH_take (i := 1) (v := .bool false) rfl (by kernel_rfl) (by kernel_rfl) (by kernel_rfl) (fun _ _ _ h => h) (Or.inl ⟨by kernel_rfl, ?_⟩) hS ?_
                      · intro W hS; obtain ⟨s0, s1, s2, s3, s4⟩ := hS; go_simp; try with_reducible rfl
                      try simp only [Act.put, List.getElem_toArray, List.getElem_cons_succ, List.getElem_cons_zero, List.setIfInBounds_toArray, List.set_cons_zero, List.set_cons_succ]
                      refine wpAnyH_take (i := 2) (v := .pointer (some ⟨ga, 1, none⟩)) rfl (by kernel_rfl) (by kernel_rfl) (by kernel_rfl) (fun _ _ _ h => h) (Or.inl ⟨by kernel_rfl, ?_⟩) hS ?_
                      · intro W hS; obtain ⟨s0, s1, s2, s3, s4⟩ := hS; go_simp; try with_reducible rfl
                      try simp only [Act.put, List.getElem_toArray, List.getElem_cons_succ, List.getElem_cons_zero, List.setIfInBounds_toArray, List.set_cons_zero, List.set_cons_succ]
                      refine wpAnyH_take (i := 3) (v := .int .i64 k) rfl (by kernel_rfl) (by kernel_rfl) (by kernel_rfl) (fun _ _ _ h => h) (Or.inl ⟨by kernel_rfl, ?_⟩) hS ?_
                      · intro W hS; obtain ⟨s0, s1, s2, s3, s4⟩ := hS; go_simp; try with_reducible rfl
                      try simp only [Act.put, List.getElem_toArray, List.getElem_cons_succ, List.getElem_cons_zero, List.setIfInBounds_toArray, List.set_cons_zero, List.set_cons_succ]
                      refine wpAnyH_take (i := 4) (v := .pointer (some ⟨V.heap.size + 1, k, none⟩)) rfl (by kernel_rfl) (by kernel_rfl) (by kernel_rfl) (fun _ _ _ h => h) (Or.inl ⟨by kernel_rfl, ?_⟩) hS ?_
                      · intro W hS; obtain ⟨s0, s1, s2, s3, s4⟩ := hS; go_simp; try with_reducible rfl
                      try simp only [Act.put, List.getElem_toArray, List.getElem_cons_succ, List.getElem_cons_zero, List.setIfInBounds_toArray, List.set_cons_zero, List.set_cons_succ]
                      refine wpAnyH_take (i := 5) (v := .slice (some ⟨gx, ox, none⟩) (S k).length cx) rfl (by kernel_rfl) (by kernel_rfl) (by kernel_rfl) (fun _ _ _ h => h) (Or.inl ⟨by kernel_rfl, ?_⟩) hS ?_
                      · intro W hS; obtain ⟨s0, s1, s2, s3, s4⟩ := hS; go_simp; try with_reducible rfl
                      try simp only [Act.put, List.getElem_toArray, List.getElem_cons_succ, List.getElem_cons_zero, List.setIfInBounds_toArray, List.set_cons_zero, List.set_cons_succ]
                      refine wpAnyH_take (i := 6) (v := .int .i64 j) rfl (by kernel_rfl) (by kernel_rfl) (by kernel_rfl) (fun _ _ _ h => h) (Or.inl ⟨by kernel_rfl, ?_⟩) hS ?_
                      · intro W hS; obtain ⟨s0, s1, s2, s3, s4⟩ := hS; go_simp; try with_reducible rfl
                      try simp only [Act.put, List.getElem_toArray, List.getElem_cons_succ, List.getElem_cons_zero, List.setIfInBounds_toArray, List.set_cons_zero, List.set_cons_succ]
                      refine wpAnyH_take (i := 7) (v := .pointer (some ⟨gx, ox + j, none⟩)) rfl (by kernel_rfl) (by kernel_rfl) (by kernel_rfl) (fun _ _ _ h => h) (Or.inl ⟨by kernel_rfl, ?_⟩) hS ?_
                      · intro W hS; obtain ⟨s0, s1, s2, s3, s4⟩ := hS; go_simp; try with_reducible rfl
                      try simp only [Act.put, List.getElem_toArray, List.getElem_cons_succ, List.getElem_cons_zero, List.setIfInBounds_toArray, List.set_cons_zero, List.set_cons_succ]
                      refine wpAnyH_take (i := 8) (v := .string (ofL x)) rfl (by kernel_rfl) (by kernel_rfl) (by kernel_rfl) (fun _ _ _ h => h) (Or.inl ⟨by kernel_rfl, ?_⟩) hS ?_
                      · intro W hS; obtain ⟨s0, s1, s2, s3, s4⟩ := hS; go_simp; try with_reducible rfl
                      try simp only [Act.put, List.getElem_toArray, List.getElem_cons_succ, List.getElem_cons_zero, List.setIfInBounds_toArray, List.set_cons_zero, List.set_cons_succ]
                      refine wpAnyH_take (i := 9) (v := .slice (some ⟨gt, ot, none⟩) T.length ct) rfl (by kernel_rfl) (by kernel_rfl) (by kernel_rfl) (fun _ _ _ h => h) (Or.inl ⟨by kernel_rfl, ?_⟩) hS ?_
                      · intro W hS; obtain ⟨s0, s1, s2, s3, s4⟩ := hS; go_simp; try with_reducible rfl
                      try simp only [Act.put, List.getElem_toArray, List.getElem_cons_succ, List.getElem_cons_zero, List.setIfInBounds_toArray, List.set_cons_zero, List.set_cons_succ]
                      refine wpAnyH_take (i := 10) (v := .int .i64 t) rfl (by kernel_rfl) (by kernel_rfl) (by kernel_rfl) (fun _ _ _ h => h) (Or.inl ⟨by kernel_rfl, ?_⟩) hS ?_
                      · intro W hS; obtain ⟨s0, s1, s2, s3, s4⟩ := hS; go_simp; try with_reducible rfl
                      try simp only [Act.put, List.getElem_toArray, List.getElem_cons_succ, List.getElem_cons_zero, List.setIfInBounds_toArray, List.set_cons_zero, List.set_cons_succ]
                      refine wpAnyH_take (i := 11) (v := .pointer (some ⟨gt, ot + t * 6, none⟩)) rfl (by kernel_rfl) (by kernel_rfl) (by kernel_rfl) (fun _ _ _ h => h) (Or.inl ⟨by kernel_rfl, ?_⟩) hS ?_
                      · intro W hS; obtain ⟨s0, s1, s2, s3, s4⟩ := hS; go_simp; try with_reducible rfl
                      try simp only [Act.put, List.getElem_toArray, List.getElem_cons_succ, List.getElem_cons_zero, List.setIfInBounds_toArray, List.set_cons_zero, List.set_cons_succ]
                      refine wpAnyH_take (i := 12) (v := .pointer (some ⟨gt, ot + t * 6 + 3, none⟩)) rfl (by kernel_rfl) (by kernel_rfl) (by kernel_rfl) (fun _ _ _ h => h) (Or.inl ⟨by kernel_rfl, ?_⟩) hS ?_
                      · intro W hS; obtain ⟨s0, s1, s2, s3, s4⟩ := hS; go_simp; try with_reducible rfl
                      try simp only [Act.put, List.getElem_toArray, List.getElem_cons_succ, List.getElem_cons_zero, List.setIfInBounds_toArray, List.set_cons_zero, List.set_cons_succ]
                      refine wpAnyH_take (i := 13) (v := .int .i64 tk.at_) rfl (by kernel_rfl) (by kernel_rfl) (by kernel_rfl) (fun _ _ _ h => h) (Or.inl ⟨by kernel_rfl, ?_⟩) hS ?_
                      · intro W hS; obtain ⟨s0, s1, s2, s3, s4⟩ := hS; go_simp; try with_reducible rfl
                      try simp only [Act.put, List.getElem_toArray, List.getElem_cons_succ, List.getElem_cons_zero, List.setIfInBounds_toArray, List.set_cons_zero, List.set_cons_succ]
                      refine wpAnyH_take (i := 14) (v := .slice (some ⟨gt, ot, none⟩) T.length ct) rfl (by kernel_rfl) (by kernel_rfl) (by kernel_rfl) (fun _ _ _ h => h) (Or.inl ⟨by kernel_rfl, ?_⟩) hS ?_
                      · intro W hS; obtain ⟨s0, s1, s2, s3, s4⟩ := hS; go_simp; try with_reducible rfl
                      try simp only [Act.put, List.getElem_toArray, List.getElem_cons_succ, List.getElem_cons_zero, List.setIfInBounds_toArray, List.set_cons_zero, List.set_cons_succ]
                      refine wpAnyH_take (i := 15) (v := .int .i64 t) rfl (by kernel_rfl) (by kernel_rfl) (by kernel_rfl) (fun _ _ _ h => h) (Or.inl ⟨by kernel_rfl, ?_⟩) hS ?_
                      · intro W hS; obtain ⟨s0, s1, s2, s3, s4⟩ := hS; go_simp; try with_reducible rfl
                      try simp only [Act.put, List.getElem_toArray, List.getElem_cons_succ, List.getElem_cons_zero, List.setIfInBounds_toArray, List.set_cons_zero, List.set_cons_succ]
                      refine wpAnyH_take (i := 16) (v := .pointer (some ⟨gt, ot + t * 6, none⟩)) rfl (by kernel_rfl) (by kernel_rfl) (by kernel_rfl) (fun _ _ _ h => h) (Or.inl ⟨by kernel_rfl, ?_⟩) hS ?_
                      · intro W hS; obtain ⟨s0, s1, s2, s3, s4⟩ := hS; go_simp; try with_reducible rfl
                      try simp only [Act.put, List.getElem_toArray, List.getElem_cons_succ, List.getElem_cons_zero, List.setIfInBounds_toArray, List.set_cons_zero, List.set_cons_succ]
                      refine wpAnyH_take (i := 17) (v := .pointer (some ⟨gt, ot + t * 6 + 4, none⟩)) rfl (by kernel_rfl) (by kernel_rfl) (by kernel_rfl) (fun _ _ _ h => h) (Or.inl ⟨by kernel_rfl, ?_⟩) hS ?_
                      · intro W hS; obtain ⟨s0, s1, s2, s3, s4⟩ := hS; go_simp; try with_reducible rfl
                      try simp only [Act.put, List.getElem_toArray, List.getElem_cons_succ, List.getElem_cons_zero, List.setIfInBounds_toArray, List.set_cons_zero, List.set_cons_succ]
                      refine wpAnyH_take (i := 18) (v := .int .u32 tk.mask) rfl (by kernel_rfl) (by kernel_rfl) (by kernel_rfl) (fun _ _ _ h => h) (Or.inl ⟨by kernel_rfl, ?_⟩) hS ?_
                      · intro W hS; obtain ⟨s0, s1, s2, s3, s4⟩ := hS; go_simp; try with_reducible rfl
                      try simp only [Act.put, List.getElem_toArray, List.getElem_cons_succ, List.getElem_cons_zero, List.setIfInBounds_toArray, List.set_cons_zero, List.set_cons_succ]
                      refine wpAnyH_take (i := 20) (v := .string sb) rfl (by kernel_rfl) (by kernel_rfl) (by kernel_rfl) (fun _ _ _ h => h) (Or.inl ⟨by kernel_rfl, ?_⟩) hS ?_
                      · intro W hS; obtain ⟨s0, s1, s2, s3, s4⟩ := hS; go_simp; try with_reducible rfl
                      try simp only [Act.put, List.getElem_toArray, List.getElem_cons_succ, List.getElem_cons_zero, List.setIfInBounds_toArray, List.set_cons_zero, List.set_cons_succ]
                      clear hS
                      have hbD := HBt.out.trans ((Below.refl wr.heap.size wr).drew.mono HBt.out.size)
                      generalize World.drew wr = U0 at hbD ⊢
                      refine heldS_one (i := 19) (by kernel_rfl) rfl (fun K hK => ?_)
                      go_simp
                      refine (HTu.out U0).mono ?_
                      rintro e U1 ⟨rfl, hb1⟩
                      have hb2 := hbD.trans (hb1.mono hbD.size)
                      refine hK _ _ (HSV.out _ hb2) ?_
                      clear hK K
                      try simp only [Act.put, List.getElem_toArray, List.getElem_cons_succ, List.getElem_cons_zero, List.setIfInBounds_toArray, List.set_cons_zero, List.set_cons_succ]
                      have hS := HSV.out _ hb2
                      refine wpAnyH_take (i := 21) (v := .bool ((ofL (turnL x tk.at_ tk.mask)).toList == sb.toList)) rfl (by kernel_rfl) (by kernel_rfl) (by kernel_rfl) (fun _ _ _ h => h) (Or.inl ⟨by kernel_rfl, ?_⟩) hS ?_
                      · intro W hS; obtain ⟨s0, s1, s2, s3, s4⟩ := hS; go_simp; try with_reducible rfl
                      try simp only [Act.put, List.getElem_toArray, List.getElem_cons_succ, List.getElem_cons_zero, List.setIfInBounds_toArray, List.set_cons_zero, List.set_cons_succ]
                      refine wpAnyH_take (i := 22) (v := .bool ((ofL (turnL x tk.at_ tk.mask)).toList == sb.toList)) rfl (by kernel_rfl) (by kernel_rfl) (by kernel_rfl) (fun _ _ _ h => h) (Or.inl ⟨by kernel_rfl, ?_⟩) hS ?_
                      · intro W hS; obtain ⟨s0, s1, s2, s3, s4⟩ := hS; go_simp; try with_reducible rfl
                      try simp only [Act.put, List.getElem_toArray, List.getElem_cons_succ, List.getElem_cons_zero, List.setIfInBounds_toArray, List.set_cons_zero, List.set_cons_succ]
                      clear hS
                      refine heldS_one (i := 23) (by kernel_rfl) rfl (fun K hK => ?_)
                      go_simp
                      refine hK _ _ (HSV.out _ hb2) ?_
                      clear hK K
                      try simp only [Act.put, List.getElem_toArray, List.getElem_cons_succ, List.getElem_cons_zero, List.setIfInBounds_toArray, List.set_cons_zero, List.set_cons_succ]
                      refine wpAnyH_done (by kernel_rfl) ?_ _
                      go_wp2_with fail
                      go_roundw
                      case rel => exact ⟨t + 1, by omega, rfl, by rw [HEq.out]; rfl, hide hb2⟩
                      case measure => simp [intOf]; omega
                    · go_quiet (fail)
                      go_wp2_with fail
                      go_roundw
                      case rel => exact ⟨t + 1, by omega, rfl, by rw [HEq.out]; rfl, hide (below_drewN HBt.out _)⟩
                      case measure => simp [intOf]; omega
                  · obtain rfl : t = T.length := by omega
                    rw [List.take_length]
                    have HFx := hide (HFs.out _ rfl)
                    rw [HFx.out]
                    go_wp2_with fail
                    go_roundw
                    case rel => exact ⟨j + 1, by omega, rfl, rfl, HBt⟩
                    case measure => simp [intOf]; omega
            · obtain rfl : j = (S k).length := by omega
              rw [List.take_length, HFd.out]
              have HI6 := hide (HI2.out.step HBq.out)
              have HL6 := hide (HL2.out.below HBq.out)
              go_wp2_with fail
              go_roundw
              case rel => exact ⟨i + 1, sr, S, T, X, by omega, rfl, HP5, HL6, HI6⟩
              case measure => simp [intOf]; omega
        · have HP5 := hide (HP.out.turned (a := ⟨kd, wy, ai, at_, mask, b⟩) HGd.out (by
            have := HBr.out.2.1 (by omega)
            rw [if_pos (by omega)] at this
            exact this) HG.out.1)
          have hT60 : T.length ≤ 60 := by have := HP.out.lenT; omega
          have tk0 : (kd == 0) = false := by rw [beq_eq_false_iff_ne]; omega
          have tk1 : (kd != 1) = true := by rw [bne_iff_ne]; omega
          have ra := HRA2.out
          have e0 := cell_of_row _ _ 0 _ _ _ ra
          have e1 := cell_of_row _ _ 1 _ _ _ ra
          have e2 := cell_of_row _ _ 2 _ _ _ ra
          have e3 := cell_of_row _ _ 3 _ _ _ ra
          have e4 := cell_of_row _ _ 4 _ _ _ ra
          have e5 := cell_of_row _ _ 5 _ _ _ ra
          have hV4 := HI2.out.below.size
          have hV5 := HI2.out.lt
          clear ra
          go_wp2_with (at_builtin; refine wpList_append_own _ rfl _ _ 22 rfl (V.heap.size + 2) 34 j0 _ 6 56 Try.underlying22 hj0 hy0 hy1 hy2 rfl (by decide) _ T.length _ rfl (HI2.out.turns.alloc _) ⟨w4.heap.size, 0, none⟩ 1 1 [.int .i64 kd, .int .i64 wy, .int .i64 ai, .int .i64 at_, .int .u32 mask, .string (ofL b)] rfl rfl (World.news_of_block (World.alloc_heap_new _ _)) (by simp [Value.oneCell']) (by unfold maxLen; omega) (by omega) (by simp; omega) ?_)
          intro v' w5 hO hg _
          have hBa := (Below.refl w4.heap.size w4).alloc (Nat.le_refl _) (.cells #[.int .i64 kd, .int .i64 wy, .int .i64 ai, .int .i64 at_, .int .u32 mask, .string (ofL b)] 34)
          have HI5 := hide (HI2.out.turned (⟨kd, wy, ai, at_, mask, b⟩ : LA) hBa hO hg)
          have HL5 := hide ((HL2.out.below hBa).grownO hg (fun e => by have := (HI2.out.turns.lt _ e).1; omega))
          have HR5 := hide ((hg.block ga (by have := (Array.getElem?_eq_some_iff.1 HRA2.out).1; have := hBa.size; omega) (fun e => by have := HTB.out _ e.symm; omega)).trans ((hBa.block ga (Array.getElem?_eq_some_iff.1 HRA2.out).1).trans HRA2.out))
          clear e0 e1 e2 e3 e4 e5 hV4 hV5 hO hg hBa HI2 HL2 HRA2 HTB
          have e0 := cell_of_row _ _ 0 _ _ _ HR5.out
          go_wp2_with fail
          refine (len_0 HL5.out).mono ?_
          rintro e wx ⟨rfl, hwx⟩
          obtain rfl := hwx
          go_wp2_with fail
          refine (len_1 HL5.out).mono ?_
          rintro e wx ⟨rfl, hwx⟩
          obtain rfl := hwx
          go_wp2_with fail
          go_roundw
          case rel => exact ⟨i + 1, sr, S, _, X, by omega, rfl, HP5, HL5, HI5⟩
          case measure => simp [intOf]; omega
        · have HP5 := hide (HP.out.turned (a := ⟨kd, wy, ai, at_, mask, b⟩) HGd.out (by
            have := HBr.out.2.1 (by omega)
            rw [if_pos (by omega)] at this
            exact this) HG.out.1)
          have hT60 : T.length ≤ 60 := by have := HP.out.lenT; omega
          have tk0 : (kd == 0) = false := by rw [beq_eq_false_iff_ne]; omega
          have tk1 : (kd != 1) = true := by rw [bne_iff_ne]; omega
          have ra := HRA2.out
          have e0 := cell_of_row _ _ 0 _ _ _ ra
          have e1 := cell_of_row _ _ 1 _ _ _ ra
          have e2 := cell_of_row _ _ 2 _ _ _ ra
          have e3 := cell_of_row _ _ 3 _ _ _ ra
          have e4 := cell_of_row _ _ 4 _ _ _ ra
          have e5 := cell_of_row _ _ 5 _ _ _ ra
          have hV4 := HI2.out.below.size
          have hV5 := HI2.out.lt
          clear ra
          go_wp2_with (at_builtin; refine wpList_append_own _ rfl _ _ 22 rfl (V.heap.size + 2) 34 j0 _ 6 56 Try.underlying22 hj0 hy0 hy1 hy2 rfl (by decide) _ T.length _ rfl (HI2.out.turns.alloc _) ⟨w4.heap.size, 0, none⟩ 1 1 [.int .i64 kd, .int .i64 wy, .int .i64 ai, .int .i64 at_, .int .u32 mask, .string (ofL b)] rfl rfl (World.news_of_block (World.alloc_heap_new _ _)) (by simp [Value.oneCell']) (by unfold maxLen; omega) (by omega) (by simp; omega) ?_)
          intro v' w5 hO hg _
          have hBa := (Below.refl w4.heap.size w4).alloc (Nat.le_refl _) (.cells #[.int .i64 kd, .int .i64 wy, .int .i64 ai, .int .i64 at_, .int .u32 mask, .string (ofL b)] 34)
          have HI5 := hide (HI2.out.turned (⟨kd, wy, ai, at_, mask, b⟩ : LA) hBa hO hg)
          have HL5 := hide ((HL2.out.below hBa).grownO hg (fun e => by have := (HI2.out.turns.lt _ e).1; omega))
          have HR5 := hide ((hg.block ga (by have := (Array.getElem?_eq_some_iff.1 HRA2.out).1; have := hBa.size; omega) (fun e => by have := HTB.out _ e.symm; omega)).trans ((hBa.block ga (Array.getElem?_eq_some_iff.1 HRA2.out).1).trans HRA2.out))
          clear e0 e1 e2 e3 e4 e5 hV4 hV5 hO hg hBa HI2 HL2 HRA2 HTB
          have e0 := cell_of_row _ _ 0 _ _ _ HR5.out
          go_wp2_with fail
          refine (len_0 HL5.out).mono ?_
          rintro e wx ⟨rfl, hwx⟩
          obtain rfl := hwx
          go_wp2_with fail
          refine (len_1 HL5.out).mono ?_
          rintro e wx ⟨rfl, hwx⟩
          obtain rfl := hwx
          go_wp2_with fail
          go_roundw
          case rel => exact ⟨i + 1, sr, S, _, X, by omega, rfl, HP5, HL5, HI5⟩
          case measure => simp [intOf]; omega
      · have HBl := hide HI.out.below
        clear HI HAr HF HN HL HP
        go_wp2_with fail
        refine (HAw.out _).mono ?_
        rintro e w4 ⟨rfl, hB4⟩
        have HB4 := hide (HBl.out.trans (hB4.mono HBl.out.size))
        clear hB4 HBl
        go_wp2_with fail
        exact bodyPost_ret (results_tmp rfl _ _ _) rfl ⟨rfl, HB4.out⟩
end Go.Proofs.Ytfknfpngcnianaa
