/-
  LinkPlays's law.
-/
import Derived.Test.YtmlpaladebpecaaLkAwake
import Derived.Test.YtmlpaladebpecaaLkArgs
namespace Go.Proofs.Ytmlpaladebpecaa
open Go.RowKit
set_option maxRecDepth 100000

/-- What holds at each round's head. -/
structure LInv (W : World) (i : Nat) (s : Nat → Way) (X : Array Value) (wr : World) : Prop where
  good : Good s i
  lk : Lk wr W.heap.size s
  row : wr.heap[W.heap.size + 1]? = some (.cells X 31 (0, 0))
  rs : Rs wr X s
  up : Up (W.heap.size + 2) X
  below : Below W.heap.size W wr
theorem RdP.grown {w w' : World} {g L : Nat} {A : Option Addr} {l : List Pk} (h : RdP w w.heap.size A l) (hu : ∀ ad, A = some ad → L ≤ ad.block) (hg : w.grownBy w' (some g)) (hl : g < L) : RdP w' w'.heap.size A l := fun k n hk => by
  obtain ⟨ad, e, hlt, h0⟩ := h k n hk
  have hb := hu ad e
  have hblk : w'.heap[ad.block]? = w.heap[ad.block]? := hg.block _ hlt (fun e2 => by injection e2 with e2; omega)
  refine ⟨ad, e, Nat.lt_of_lt_of_le hlt hg.size, ?_, ?_⟩
  · exact (World.cell?_of_block (a := ad.add (k * 2)) (by rw [add_block]; exact hblk)).trans h0.b
  · exact (World.cell?_of_block (a := ⟨(ad.add (k * 2)).block, (ad.add (k * 2)).off + 1, none⟩) (by show w'.heap[(ad.add (k * 2)).block]? = _; rw [add_block]; exact hblk)).trans h0.t
theorem Rs.grown {w w' : World} {g L : Nat} {X : Array Value} {s : Nat → Way} (h : Rs w X s) (hu : Up L X) (hg : w.grownBy w' (some g)) (hl : g < L) : Rs w' X s :=
  ⟨h.1, h.2.1, fun k hk => by
    obtain ⟨A, c, q⟩ := h.2.2 k hk
    exact ⟨A, c, ⟨q.row, q.sent, q.lost, q.cap, q.rd.grown (hu k hk _ _ _ q.row) hg hl⟩⟩⟩
theorem grown_row (w : World) (g : Nat) (X : Array Value) : w.grownBy (w.setRow g X) (some g) := ⟨rfl, rfl, rfl, by simp, fun k _ hne => setRow_other w g k X (fun e => hne (by rw [e]))⟩
theorem Lk.grown {w w' : World} {g h : Nat} {s : Nat → Way} (hL : Lk w g s) (hg : w.grownBy w' (some h)) (hne : g ≠ h) : Lk w' g s := by
  obtain ⟨C, hC, h0, h1⟩ := hL
  have e : w'.heap[g]? = w.heap[g]? := hg.block g (Array.getElem?_eq_some_iff.1 h0.row).1 (fun e => hne (by injection e))
  exact ⟨C, hC, ⟨e.trans h0.row, h0.size, h0.one, h0.at_, h0.few⟩, ⟨e.trans h1.row, h1.size, h1.one, h1.at_, h1.few⟩⟩
/-- The link's step. -/
theorem LInv.linked {W wr w' : World} {i : Nat} {s s' : Nat → Way} {X : Array Value} (h : LInv W i s X wr) (_ : Lk w' W.heap.size s') (hg : wr.grownBy w' (some W.heap.size)) : w'.heap[W.heap.size + 1]? = some (.cells X 31 (0, 0)) ∧ Rs w' X s ∧ Below W.heap.size W w' :=
  ⟨(hg.block _ (Array.getElem?_eq_some_iff.1 h.row).1 (fun e => by injection e with e; omega)).trans h.row, h.rs.grown h.up hg (by omega), h.below.grown hg h.below.size (fun r e => by cases e; exact Nat.le_refl _)⟩
theorem LInv.step {W wr w' : World} {i : Nat} {s : Nat → Way} {X : Array Value} (h : LInv W i s X wr) (hB : Below wr.heap.size wr w') : LInv W i s X w' :=
  ⟨h.good, h.lk.below hB, (hB.block _ (Array.getElem?_eq_some_iff.1 h.row).1).trans h.row, h.rs.step hB, h.up, h.below.trans (hB.mono h.below.size)⟩
theorem start_inv (W : World) : LInv W 0 s0 zero6 ((W.alloc (.cells zeroC 56)).alloc (.cells zero6 31)) := by
  obtain ⟨h0, h1, h2⟩ := rows2 W zeroC zero6 56 31
  have hl := (lk0 W).below (((Below.refl _ (W.alloc (.cells zeroC 56))).alloc (Nat.le_refl _) (.cells zero6 31)))
  refine ⟨good0 0, hl, h1, ⟨rfl, fun v hv => ?_, fun k hk => ⟨none, 0, ?_⟩⟩, fun k hk A n c hx ad e => ?_, h2⟩
  · have : v = .slice none 0 0 ∨ v = .int .i64 0 := by
      have e : zero6.toList = [.slice none 0 0, .slice none 0 0, .int .i64 0, .int .i64 0, .int .i64 0, .int .i64 0] := rfl
      rw [e] at hv
      simp at hv
      exact hv
    rcases this with rfl | rfl <;> rfl
  · have hk2 : k = 0 ∨ k = 1 := by omega
    rcases hk2 with rfl | rfl
    · exact ⟨rfl, rfl, rfl, Nat.le_refl _, RdP.nil _ _ _⟩
    · exact ⟨rfl, rfl, rfl, Nat.le_refl _, RdP.nil _ _ _⟩
  · have hk2 : k = 0 ∨ k = 1 := by omega
    subst e
    rcases hk2 with rfl | rfl
    · injection hx with hx; injection hx with hx; cases hx
    · injection hx with hx; injection hx with hx; cases hx
set_option maxHeartbeats 16000000 in
theorem linkPlays_law (A : Option Addr) (l : List LA) (c : Nat) (W : World) (hA : RdLA W W.heap.size A l) (hf : ∀ a ∈ l, a.fits) (hm : (l.length : Int) ≤ 9223372036854775807) :
    Calls Try.prog 3 #[.slice A l.length c] W fun e w' => e = .returned (.bool true) ∧ Below W.heap.size W w' := by
  have HF := hide (few_any A l c W hA hm)
  have HAw := hide awake_any
  cases hfew : fewB l
  · rw [hfew] at HF
    clear hfew hA hf
    go_enter Try.func3, Try.ntmps3
    go_wp2_with fail
    refine HF.out.mono ?_
    rintro e w1 ⟨rfl, rfl⟩
    go_wp2_with fail
    refine (HAw.out _).mono ?_
    rintro e w2 ⟨rfl, hB⟩
    have HB := hide hB
    clear hB
    go_wp2_with fail
    exact bodyPost_ret (results_tmp rfl _ _ _) rfl ⟨rfl, HB.out⟩
  · have h60 := (fewB_of hfew).1
    have HBB := hide (fewB_of hfew).2
    rw [hfew] at HF
    have HN := hide (new_any W)
    have hI := start_inv W
    have HAr := hide hA
    have HFi := hide hf
    clear hfew hA hf
    unfold zero6 at hI
    go_enter Try.func3, Try.ntmps3
    go_wp2_with fail
    refine HF.out.mono ?_
    rintro e V ⟨rfl, rfl⟩
    go_wp2_with fail
    refine HN.out.mono ?_
    rintro e w2 ⟨rfl, rfl⟩
    go_wp2_with fail
    generalize ((V.alloc (.cells zeroC 56)).alloc (.cells #[.slice none 0 0, .slice none 0 0, .int .i64 0, .int .i64 0, .int .i64 0, .int .i64 0] 31)) = w2 at hI ⊢
    generalize #[Value.slice none 0 0, .slice none 0 0, .int .i64 0, .int .i64 0, .int .i64 0, .int .i64 0] = X0 at hI
    go_loopw [5] (fun iv wr => ∃ (i : Nat) (s : Nat → Way) (X : Array Value), i ≤ l.length ∧ iv = .int .i64 i ∧ Hid (LInv V i s X wr)) (fun iv _ => l.length - (intOf iv).toNat)
    case atStart => exact ⟨0, s0, X0, Nat.zero_le _, rfl, hide hI⟩
    case round =>
      clear hI
      obtain ⟨i, s, X, hi, rfl, HI⟩ := hrel
      by_cases hlt : (i : Int) < l.length
      · have hx := List.getElem?_eq_getElem (show i < l.length by omega)
        obtain ⟨gb, ob, rfl, hgb, hc⟩ := HAr.out i _ hx
        have HB1 := hide (HBB.out l[i] (List.getElem_mem _))
        have HF1 := hide (HFi.out l[i] (List.getElem_mem _))
        have hbl := HI.out.below
        have hcc := fun j v hv => (hbl.cell (p := ⟨gb, ob + i * 6 + j, none⟩) hgb).trans (hc j v hv)
        generalize l[i] = a at *
        obtain ⟨kd, wy, ai, at_, mask, b⟩ := a
        have e0 : wr.cell? ⟨gb, ob + i * 6, none⟩ = some (.int .i64 kd) := hcc 0 _ rfl
        have e1 : wr.cell? ⟨gb, ob + i * 6 + 1, none⟩ = some (.int .i64 wy) := hcc 1 _ rfl
        have e2 : wr.cell? ⟨gb, ob + i * 6 + 2, none⟩ = some (.int .i64 ai) := hcc 2 _ rfl
        have e3 : wr.cell? ⟨gb, ob + i * 6 + 3, none⟩ = some (.int .i64 at_) := hcc 3 _ rfl
        have e4 : wr.cell? ⟨gb, ob + i * 6 + 4, none⟩ = some (.int .u32 mask) := hcc 4 _ rfl
        have e5 : wr.cell? ⟨gb, ob + i * 6 + 5, none⟩ = some (.string (ofL b)) := hcc 5 _ rfl
        have hfit : -9223372036854775808 ≤ at_ ∧ at_ ≤ 9223372036854775807 ∧ mask < 4294967296 := HF1.out
        have hbb : b.length ≤ 100 := HB1.out
        have HG := hide (And.intro hfit hbb)
        clear hx hc hcc hbl HB1 HF1 hfit hbb
        obtain ⟨B, hB⟩ : ∃ B : Bool, B = decide (kd < 0 ∨ 4 < kd) := ⟨_, rfl⟩
        have HBd := hide hB
        clear hB
        obtain ⟨kq, hkq⟩ : ∃ kq, kq = if B then 4 else kd := ⟨_, rfl⟩
        have HKQ := hide hkq
        clear hkq
        have h3 : kd < 0 ∨ (¬ kd < 0 ∧ 4 < kd) ∨ (¬ kd < 0 ∧ ¬ 4 < kd) := by omega
        have hbA := (Below.refl wr.heap.size wr).alloc (Nat.le_refl _) (.cells #[.int .i64 kd, .int .i64 wy, .int .i64 ai, .int .i64 at_, .int .u32 mask, .string (ofL b)] 34)
        have ra := World.alloc_heap_new wr (.cells #[.int .i64 kd, .int .i64 wy, .int .i64 ai, .int .i64 at_, .int .u32 mask, .string (ofL b)] 34)
        have d0 := cell_of_row _ _ 0 _ _ _ ra
        have z0 : (wr.alloc (.cells #[.int .i64 kd, .int .i64 wy, .int .i64 ai, .int .i64 at_, .int .u32 mask, .string (ofL b)] 34)).frozen? ⟨wr.heap.size, 0, none⟩ = false := frozen_of_row _ _ _ _ _ ra
        have ra4 := World.alloc_heap_new wr (.cells #[.int .i64 4, .int .i64 wy, .int .i64 ai, .int .i64 at_, .int .u32 mask, .string (ofL b)] 34)
        have hb4 := (Below.refl wr.heap.size wr).alloc (Nat.le_refl _) (.cells #[.int .i64 4, .int .i64 wy, .int .i64 ai, .int .i64 at_, .int .u32 mask, .string (ofL b)] 34)
        have HRA := hide (And.intro ra hbA)
        have HR4 := hide (And.intro ra4 hb4)
        clear ra hbA ra4 hb4
        go_upto_region 9 with fail
        clear e0 e1 e2 e3 e4 e5
        go_cut [38] (fun x wx => x = .bool B ∧ wx = wr.alloc (.cells #[.int .i64 kd, .int .i64 wy, .int .i64 ai, .int .i64 at_, .int .u32 mask, .string (ofL b)] 34))
        case first =>
          rcases h3 with h3 | ⟨h3, h4⟩ | ⟨h3, h4⟩
          · have hq : true = B := by rw [HBd.out]; exact (decide_eq_true (by omega)).symm
            clear HBd
            subst hq
            go_wp2_with fail
            go_meet
            case rel => exact ⟨rfl, rfl⟩
          · have hq : true = B := by rw [HBd.out]; exact (decide_eq_true (by omega)).symm
            clear HBd
            subst hq
            go_wp2_with fail
            go_meet
            case rel => exact ⟨rfl, rfl⟩
          · have hq : false = B := by rw [HBd.out]; exact (decide_eq_false (by omega)).symm
            clear HBd
            subst hq
            go_wp2_with fail
            go_meet
            case rel => exact ⟨rfl, rfl⟩
        case rest =>
        obtain ⟨rfl, rfl⟩ := hcut
        clear h3 HBd
        go_upto_if 38 with fail
        go_cut [39] (fun _ wx => Hid (wx.heap[wr.heap.size]? = some (.cells #[.int .i64 kq, .int .i64 wy, .int .i64 ai, .int .i64 at_, .int .u32 mask, .string (ofL b)] 34 (0, 0)) ∧ Below wr.heap.size wr wx))
        case first =>
          cases B
          · have hq : kd = kq := HKQ.out.symm
            clear HKQ
            subst hq
            go_wp2_with fail
            go_meet
            case rel => exact HRA
          · have hq : 4 = kq := HKQ.out.symm
            clear HKQ
            subst hq
            go_wp2_with fail
            go_meet
            case rel => exact HR4
        case rest =>
          have HW := hcut
          clear HRA HR4 d0 z0 HKQ
          have ra := HW.out.1
          have hI2 := HI.out.step HW.out.2
          have e0 := cell_of_row _ _ 0 _ _ _ ra
          have e1 := cell_of_row _ _ 1 _ _ _ ra
          have e2 := cell_of_row _ _ 2 _ _ _ ra
          have e3 := cell_of_row _ _ 3 _ _ _ ra
          have e4 := cell_of_row _ _ 4 _ _ _ ra
          have e5 := cell_of_row _ _ 5 _ _ _ ra
          have hdo := do_any V.heap.size s kq wy ai at_ mask b i wc hI2.lk hI2.good (by omega) HG.out.1.1 HG.out.1.2.1 HG.out.1.2.2
          unfold actC at hdo
          have HDo := hide hdo
          have HI2 := hide hI2
          have hgl : wr.heap.size ≠ V.heap.size := by have := HI.out.lk.lt; omega
          have hgd : Good (stepS s kq wy ai at_ mask b).1 (i + 1) := hI2.good.step kq wy ai at_ mask b HG.out.2
          have hrf := fun (w' : World) (h : Rs w' X s) => refDo_any X s kq wy ai at_ mask b i w' h hI2.good (by omega) HG.out.1.1 HG.out.1.2.1 HG.out.1.2.2
          unfold actC at hrf
          obtain ⟨r, hr⟩ : ∃ r, r = stepS s kq wy ai at_ mask b := ⟨_, rfl⟩
          rw [← hr] at HDo hrf hgd
          obtain ⟨sr, lr, okr⟩ := r
          have HRf := hide hrf
          have HGd := hide hgd
          clear hdo hI2 hrf hgd hr HW
          go_upto_region 11 with fail
          go_wp2_with fail
          refine HDo.out.mono ?_
          rintro e w3 ⟨rfl, hlk, hgr⟩
          obtain ⟨hrow, hrs, hbl⟩ := HI2.out.linked hlk hgr
          have ra3 : w3.heap[wr.heap.size]? = _ := (hgr.block _ (Array.getElem?_eq_some_iff.1 ra).1 (fun e => hgl (by injection e))).trans ra
          have HC := hide (HRf.out _ hrs)
          have HLK := hide (And.intro hlk (And.intro hbl HI2.out.up))
          have hxs : X.size = 6 := hrs.1
          have HXS := hide (st_size hxs)
          have HX6 := hide hxs
          clear hlk hgr hrs hbl ra e0 e1 e2 e3 e4 e5 HI2 HDo HRf hxs hgl
          have e0 := cell_of_row _ _ 0 _ _ _ ra3
          have e1 := cell_of_row _ _ 1 _ _ _ ra3
          have e2 := cell_of_row _ _ 2 _ _ _ ra3
          have e3 := cell_of_row _ _ 3 _ _ _ ra3
          have e4 := cell_of_row _ _ 4 _ _ _ ra3
          have e5 := cell_of_row _ _ 5 _ _ _ ra3
          go_wp2_with (refine wpList_load_row rfl 31 (.tmp 4) rfl (V.heap.size + 1) rfl 31 X (0, 0) _ hrow Try.underlying31 rfl HXS.out ?_)
          refine HC.out.mono ?_
          rintro e w4 ⟨X', rfl, hrs, hbl, hup⟩
          have hrow4 := (hbl.block _ (Array.getElem?_eq_some_iff.1 hrow).1).trans hrow
          have hlt4 := (Array.getElem?_eq_some_iff.1 hrow).1
          have hup' : Up (V.heap.size + 2) X' := hup _ (by omega) HLK.out.2.2
          have hI5 : LInv V (i + 1) sr X' (w4.setRow (V.heap.size + 1) X') :=
            ⟨HGd.out, (HLK.out.1.below hbl).grown (grown_row w4 (V.heap.size + 1) X') (by omega), setRow_heap w4 _ _ X' _ _ hrow4, hrs.grown hup' (grown_row w4 (V.heap.size + 1) X') (by omega), hup', below_row (HLK.out.2.1.trans (hbl.mono HLK.out.2.1.size)) (by omega) X'⟩
          have HI5 := hide hI5
          have HX' := hide (st_size hrs.1)
          have HA' := hide (all_of hrs.2.1)
          have h6 : X.size = X'.size := by rw [hrs.1]; exact HX6.out
          have H6 := hide h6
          have hbe : (okr != okr) = false := by simp
          clear hI5 hrs hbl hup hup' hrow ra3 HC HLK h6 e0 e1 e2 e3 e4 e5 HGd
          generalize hS : ofL lr = S
          clear hS
          go_wp2_with (refine wpList_store_row rfl 31 (.tmp 4) (.tmp 50) rfl (V.heap.size + 1) X' rfl rfl 31 _ hrow4 HX'.out H6.out HA'.out ?_)
          generalize w4.setRow (V.heap.size + 1) X' = w5 at HI5 ⊢
          clear hrow4 hcut HG HX' HA' H6 HXS HX6 hbe
          go_loopw [11] (fun kv wq => ∃ kk : Nat, kk ≤ 2 ∧ kv = .int .i64 kk ∧ Hid (LInv V (i + 1) sr X' wq)) (fun kv _ => 2 - (intOf kv).toNat)
          case atStart => exact ⟨0, by decide, rfl, HI5⟩
          case round =>
            clear HI5
            obtain ⟨kk, hk, rfl, HQ⟩ := hrel
            by_cases hk2 : kk < 2
            · have hki : (kk : Int) < 2 := by omega
              obtain ⟨C, hC, hIn, _⟩ := HQ.out.lk.at_ hk2
              have HLen := hide (fun m => lkLen_in (.pointer (some ⟨V.heap.size, 0, none⟩)) kk V.heap.size (kk * 35) C (sr kk) (wr.drewN m) (fun W => on_in V.heap.size kk hk2 W) (hIn.alloc (below_drewN (Below.refl _ _) m)))
              have HSent := hide (fun m => lkSent_in (.pointer (some ⟨V.heap.size, 0, none⟩)) kk V.heap.size (kk * 35) C (sr kk) (wr.drewN m) (fun W => on_in V.heap.size kk hk2 W) (hIn.alloc (below_drewN (Below.refl _ _) m)))
              have HLost := hide (fun m => lkLost_in (.pointer (some ⟨V.heap.size, 0, none⟩)) kk V.heap.size (kk * 35) C (sr kk) (wr.drewN m) (fun W => on_in V.heap.size kk hk2 W) (hIn.alloc (below_drewN (Below.refl _ _) m)))
              obtain ⟨A5, c5, hS5⟩ := HQ.out.rs.2.2 kk hk2
              have f0 : wr.cell? ⟨V.heap.size + 1, kk, none⟩ = _ := (cell_of_row _ _ _ _ _ _ HQ.out.row).trans hS5.row
              have f1 : wr.cell? ⟨V.heap.size + 1, 2 + kk, none⟩ = _ := (cell_of_row _ _ _ _ _ _ HQ.out.row).trans hS5.sent
              have f2 : wr.cell? ⟨V.heap.size + 1, 4 + kk, none⟩ = _ := (cell_of_row _ _ _ _ _ _ HQ.out.row).trans hS5.lost
              have g0 : (((sr kk).l.length : Int) != ((sr kk).l.length : Int)) = false := by simp
              clear hC hIn hS5 hk2
              go_upto_region 19 with fail
              go_quiet ((first
                | (go_at_call 10; exact Calls.quiet_of_same (HLen.out _))
                | (go_at_call 11; exact Calls.quiet_of_same (HSent.out _))
                | (go_at_call 12; exact Calls.quiet_of_same (HLost.out _))))
              have HQ2 := hide (HQ.out.step (below_drewN (Below.refl wr.heap.size wr) nq))
              clear f0 f1 f2 g0 HQ HLen HSent HLost
              go_wp2_with fail
              go_roundw
              case rel => exact ⟨kk + 1, by omega, rfl, HQ2⟩
              case measure => simp [intOf]; omega
            · obtain rfl : kk = 2 := by omega
              go_wp2_with fail
              go_roundw
              case rel => exact ⟨i + 1, sr, X', by omega, rfl, HQ⟩
              case measure => simp [intOf]; omega
      · have hnil := fun k => on_nil k
        have HSe := hide (fun W => send_none (.pointer none) (.slice none 0 0) 0 W (fun W => on_nil 0 W))
        have HDe := hide (fun W => deliver_none (.pointer none) 0 0 W (at_none _ _ _ W (fun W => on_nil 0 W)))
        have HDr := hide (fun W => drop_none (.pointer none) 0 0 W (at_none _ _ _ W (fun W => on_nil 0 W)))
        have HDo := hide (fun W => double_none (.pointer none) 1 0 W (at_none _ _ _ W (fun W => on_nil 1 W)))
        have HTu := hide (fun W => turn_none (.pointer none) 0 0 0 1 W (at_none _ _ _ W (fun W => on_nil 0 W)))
        have HLe := hide (fun W => lkLen_none (.pointer none) 0 W (fun W => on_nil 0 W))
        have HSt := hide (fun W => lkSent_none (.pointer none) 0 W (fun W => on_nil 0 W))
        have HLo := hide (fun W => lkLost_none (.pointer none) 1 W (fun W => on_nil 1 W))
        have HL2 := hide (fun W => lkLen_none (.pointer (some ⟨V.heap.size, 0, none⟩)) 2 W (fun W => on_bad V.heap.size 2 (.inr (by decide)) W))
        have HS2 := hide (fun W => lkSent_none (.pointer (some ⟨V.heap.size, 0, none⟩)) (-1) W (fun W => on_bad V.heap.size (-1) (.inl (by decide)) W))
        have HBl := hide HI.out.below
        clear hnil HI HAr HF HN
        go_wp2_with fail
        refine (HSe.out _).mono ?_
        rintro e w3 ⟨rfl, rfl⟩
        go_wp2_with fail
        refine (HDe.out _).mono ?_
        rintro e w3 ⟨rfl, rfl⟩
        go_wp2_with fail
        refine (HAw.out _).mono ?_
        rintro e w4 ⟨rfl, hB4⟩
        have HB4 := hide (HBl.out.trans (hB4.mono HBl.out.size))
        clear hB4 HBl
        go_wp2_with fail
        refine (HDr.out _).mono ?_
        rintro e w5 ⟨rfl, rfl⟩
        go_wp2_with fail
        refine (HDo.out _).mono ?_
        rintro e w5 ⟨rfl, rfl⟩
        go_wp2_with fail
        refine (HTu.out _).mono ?_
        rintro e w5 ⟨rfl, rfl⟩
        go_wp2_with fail
        refine (HLe.out _).mono ?_
        rintro e w5 ⟨rfl, rfl⟩
        go_wp2_with fail
        refine (HSt.out _).mono ?_
        rintro e w5 ⟨rfl, rfl⟩
        go_wp2_with fail
        refine (HLo.out _).mono ?_
        rintro e w5 ⟨rfl, rfl⟩
        go_wp2_with fail
        refine (HL2.out _).mono ?_
        rintro e w5 ⟨rfl, rfl⟩
        go_wp2_with fail
        refine (HS2.out _).mono ?_
        rintro e w5 ⟨rfl, rfl⟩
        go_wp2_with fail
        exact bodyPost_ret (results_tmp rfl _ _ _) rfl ⟨rfl, HB4.out⟩
end Go.Proofs.Ytmlpaladebpecaa
