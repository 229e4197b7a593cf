/-
  journal.record: the record that a line is of, if there is one.
-/
import Derived.Test.YtggdndmjfbiaiaaDoorJnLine
import Derived.Test.YtggdndmjfbiaiaaDoorJnStr
import Derived.Deep.LoopGhost
import Derived.Laws.Rows
namespace Go.Proofs.YtggdndmjfbiaiaaDoor
open Go.RowKit
set_option maxRecDepth 100000

/-- Two cells stored into a row of two. -/
theorem pair_put (W : World) (n : Nat) (z0 z1 v0 v1 : Value) (t : TypeId) (h : W.heap[n]? = some (.cells #[z0, z1] t (0, 0))) :
    Below n W ((W.setCell ⟨n, 0, none⟩ v0).setCell ⟨n, 1, none⟩ v1) ∧ ((W.setCell ⟨n, 0, none⟩ v0).setCell ⟨n, 1, none⟩ v1).heap[n]? = some (.cells #[v0, v1] t (0, 0)) := by
  have r0 := heap_setCell_same _ _ 0 _ _ v0 h
  have r1 := heap_setCell_same _ _ 1 _ _ v1 r0
  exact ⟨((Below.refl n W).setCell (p := ⟨n, 0, none⟩) (Nat.le_refl _) v0).setCell (p := ⟨n, 1, none⟩) (Nat.le_refl _) v1, r1⟩
theorem results_row2 {P : Program} {fn : Func} {p a : Tmp} {ty : TypeId} (h : fn.results = #[.cell p ty, .tmp a]) (tmps : Array Value) (w : World) (g : Nat) (t : TypeId) (cs : Array Value) (fr : Nat × Nat) (d : TypeDesc)
    (hp : tmps.getD p undef = .pointer (some ⟨g, 0, none⟩)) (hg : w.heap[g]? = some (.cells cs t fr))
    (hu : P.underlying ty = some d) (hd : (match d with | .struct _ | .array _ _ => true | _ => false) = true) (hi : (P.info? ty).map (·.size) = some cs.size) :
    (results fn tmps).run P w = .ok (.tuple #[.agg cs, tmps.getD a undef]) w := by
  have hp' : tmps[p]?.getD undef = .pointer (some ⟨g, 0, none⟩) := by simpa using hp
  simp [results, h, hp', asAddr, run_loadVar_row w g t ty cs fr d hg hu hd hi]
/-- What record answers. -/
def recV (x : List UInt8) : Array Value := match recJ x with
  | none => #[.agg #[.int .i64 0, .int .i64 0], .bool false]
  | some p => #[.agg #[.int .i64 p.1, .int .i64 p.2], .bool true]
theorem preB_toL (k : Int) : toL (wordB k ++ ⟨#[32]⟩) = preJ k := by simp [wordB, toL, preJ]
theorem pre_iff (s : ByteArray) (k : Int) : preB s (wordB k ++ ⟨#[32]⟩) = true ↔ preJ k <+: toL s := by
  unfold preB
  rw [show (wordB k ++ (⟨#[32]⟩ : ByteArray)).data.toList = preJ k from preB_toL k]
  exact List.isPrefixOf_iff_prefix
theorem rest_toL (s : ByteArray) (k : Int) (h : preB s (wordB k ++ ⟨#[32]⟩) = true) : toL (restP s (wordB k ++ ⟨#[32]⟩)) = (toL s).drop (preJ k).length := by
  rw [restP_some h, ← preB_toL k, size_toL]
  unfold toL
  rw [Lib.extract_data, List.take_of_length_le (by simp)]
theorem cut_trim (s : ByteArray) : toL (cutE s 10) = trimJ (toL s) := by
  unfold cutE trimJ sufB
  by_cases h : (toL s).getLast? = some 10
  · rw [if_pos (by rw [h]; rfl), if_pos h]
    unfold toL
    rw [Lib.extract_data, List.drop_zero, List.dropLast_eq_take]
    simp
  · rw [if_neg (by simpa using h), if_neg h]
theorem same_text (a b : ByteArray) : (a.toList == b.toList) = decide (toL a = toL b) := by
  rw [Lib.toList_data, Lib.toList_data]
  rw [Bool.eq_iff_iff]
  simp [toL]
theorem cutE_size (s : ByteArray) (c : UInt8) : (cutE s c).size ≤ s.size := by
  unfold cutE
  split
  · simp
  · exact Nat.le_refl _
theorem restP_size (s p : ByteArray) : (restP s p).size ≤ s.size := by
  unfold restP
  split
  · simp
  · exact Nat.le_refl _
theorem rec_found {x : List UInt8} {k : Int} (hp : preJ k <+: x) (h : lineJ k (numJ k x) = x) : recJ x = some (k, numJ k x) := by
  have hne : x ≠ [] := fun e => by
    rw [e] at hp
    have := hp.length_le
    simp [preJ] at this
  have hk := lineJ_ne.1 (fun e => hne (h.symm.trans e))
  exact (congrArg recJ h).symm.trans (recJ_line hk)

set_option maxHeartbeats 8000000 in
theorem record_any (s : ByteArray) (w : World) (hs : (s.size : Int) ≤ 100000) (hT : Tabs w) :
    Calls Tryd.prog 20 #[.string s] w fun e w' => e = .returned (.tuple (recV (toL s))) ∧ Below w.heap.size w w' := by
  have HT := hide hT
  obtain ⟨w1, hw1⟩ : ∃ w1, w1 = w.alloc (.cells #[.int .i64 0, .int .i64 0] 34) := ⟨_, rfl⟩
  have HR1 := hide (show w1.heap[w.heap.size]? = some (.cells #[.int .i64 0, .int .i64 0] 34 (0, 0)) by rw [hw1]; exact World.alloc_heap_new _ _)
  have HB1 := hide (show Below w.heap.size w w1 by rw [hw1]; exact (Below.refl _ w).alloc (Nat.le_refl _) _)
  have Hw1 := hide hw1
  clear hw1 hT
  go_enter Tryd.func20, Tryd.ntmps20
  go_wp2_with fail
  rw [← Hw1.out]
  go_loopg [4] 4 (fun gk kv wr => ∃ k : Nat, kv = .int .i64 k ∧ k + gk = 5 ∧ 1 ≤ k ∧ Hid (∀ j n, OkJ j n → toL s = lineJ j n → (k : Int) ≤ j) ∧ Hid (Below w.heap.size w wr) ∧ Hid (wr.heap[w.heap.size]? = some (.cells #[.int .i64 0, .int .i64 0] 34 (0, 0))))
  case atStart => exact ⟨1, rfl, by omega, Nat.le_refl _, hide (fun j n h _ => h.1), HB1, HR1⟩
  case round =>
    obtain ⟨k, rfl, hkg, hk1, HI, HB, HR⟩ := hrel
    cases gk with
    | zero =>
      obtain rfl : k = 5 := by omega
      have HE := hide (show recV (toL s) = #[.agg #[.int .i64 0, .int .i64 0], .bool false] by unfold recV; rw [rec_out HI.out])
      have m0 : wr.frozen? ⟨w.heap.size, 0, none⟩ = false := frozen_of_row _ _ _ _ _ HR.out
      have m1 : wr.frozen? ⟨w.heap.size, 1, none⟩ = false := frozen_of_row _ _ _ _ _ HR.out
      have n0 : wr.cell? ⟨w.heap.size, 0, none⟩ = some (.int .i64 0) := cell_of_row _ _ _ _ _ _ HR.out
      have n1 : wr.cell? ⟨w.heap.size, 1, none⟩ = some (.int .i64 0) := cell_of_row _ _ _ _ _ _ HR.out
      have HP := hide (pair_put wr w.heap.size _ _ (.int .i64 0) (.int .i64 0) _ HR.out)
      have HN := hide (HB.out.trans HP.out.1)
      clear HI hkg
      go_wp2_with fail
      refine bodyPost_ret (results_row2 (P := Tryd.prog) rfl _ _ w.heap.size _ _ _ _ rfl HP.out.2 Tryd.underlying34 rfl (by kernel_rfl)) rfl ⟨by rw [HE.out]; rfl, HN.out⟩
    | succ g0 =>
      have hk4 : (k : Int) ≤ 4 := by omega
      have HWd := hide (fun W => word_any k W)
      have hws := wordB_size k
      have HCP := hide (fun W => cutPre_any s (wordB k ++ ⟨#[32]⟩) W)
      obtain ⟨P, hP⟩ : ∃ P, P = preB s (wordB k ++ ⟨#[32]⟩) := ⟨_, rfl⟩
      obtain ⟨D, hD⟩ : ∃ D, D = restP s (wordB k ++ ⟨#[32]⟩) := ⟨_, rfl⟩
      have HPre := hide (pre_iff s k)
      have HDr := hide (rest_toL s k)
      have hDs := restP_size s (wordB k ++ ⟨#[32]⟩)
      rw [← hP] at HCP HPre HDr
      rw [← hD] at HCP HDr hDs
      obtain ⟨B, hB⟩ : ∃ B, B = wordB k := ⟨_, rfl⟩
      rw [← hB] at HCP HWd hws
      clear hP hD hB
      have hk4n : (k : Int) + 1 ≤ 5 := by omega
      cases P with
      | false =>
        have HN := hide (not_below HI.out (no_kind (.inl (fun h => by have := HPre.out.2 h; cases this))))
        clear HI HPre HDr
        go_wp2_with fail
        refine (HWd.out _).mono ?_
        rintro e w2 ⟨rfl, rfl⟩
        go_wp2_with fail
        refine (HCP.out _).mono ?_
        rintro e w2 ⟨rfl, rfl⟩
        go_wp2_with fail
        go_roundg g0
        case rel => exact ⟨k + 1, rfl, by omega, by omega, hide (by have := HN.out; simpa using this), HB, HR⟩
        case measure => omega
      | true =>
        have hpre := HPre.out.1 rfl
        have hdr := HDr.out rfl
        have HTr := hide (fun W => trimSuf_any D 10 W (by omega))
        have hCs := cutE_size D 10
        have hct := cut_trim D
        obtain ⟨C, hC⟩ : ∃ C, C = cutE D 10 := ⟨_, rfl⟩
        rw [← hC] at HTr hCs hct
        have HAt := hide (fun W (hb : Below w.heap.size w W) => atoi_any C W (by omega) (HT.out.below hb))
        have hnv : atoiJ (toL C) = numJ k (toL s) := by rw [hct, hdr]; rfl
        obtain ⟨nv, hn⟩ : ∃ nv, nv = numJ k (toL s) := ⟨_, rfl⟩
        rw [hnv, ← hn] at HAt
        have HL := hide (fun W (hb : Below w.heap.size w W) => line_any k nv W (HT.out.below hb))
        have hq := same_text (lineB k nv) s
        rw [lineB_toL] at hq
        have HFd := hide (show lineJ k nv = toL s → recV (toL s) = #[.agg #[.int .i64 k, .int .i64 nv], .bool true] from fun h => by
          rw [hn] at h ⊢
          unfold recV
          rw [rec_found hpre h])
        have HNo := hide (show lineJ k nv ≠ toL s → ∀ j n, OkJ j n → toL s = lineJ j n → (k : Int) + 1 ≤ j from fun h => by
          rw [hn] at h
          exact not_below HI.out (no_kind (.inr h)))
        obtain ⟨LB, hLB⟩ : ∃ LB, LB = lineB k nv := ⟨_, rfl⟩
        rw [← hLB] at HL hq
        obtain ⟨b, hb⟩ : ∃ b, b = decide (lineJ k nv = toL s) := ⟨_, rfl⟩
        rw [← hb] at hq
        have Hb := hide hb
        clear hC hct hnv hn hLB hb hpre hdr HPre HDr HI hDs hCs
        go_wp2_with fail
        refine (HWd.out _).mono ?_
        rintro e w2 ⟨rfl, rfl⟩
        go_wp2_with fail
        refine (HCP.out _).mono ?_
        rintro e w2 ⟨rfl, rfl⟩
        go_wp2_with fail
        refine (HTr.out _).mono ?_
        rintro e w2 ⟨rfl, rfl⟩
        go_wp2_with fail
        refine (HAt.out _ HB.out).mono ?_
        rintro e w3 ⟨⟨ev, rfl⟩, hb3⟩
        have hs0 := (Array.getElem?_eq_some_iff.1 HR.out).1
        have HR3 := hide ((hb3.block _ hs0).trans HR.out)
        have HB3 := hide (HB.out.trans (hb3.mono HB.out.size))
        obtain ⟨w4, hw4⟩ : ∃ w4, w4 = w3.alloc (.cells #[.int .i64 k, .int .i64 nv] 34) := ⟨_, rfl⟩
        have hs3 := (Array.getElem?_eq_some_iff.1 HR3.out).1
        have HR4 := hide (show w4.heap[w.heap.size]? = some (.cells #[.int .i64 0, .int .i64 0] 34 (0, 0)) by rw [hw4]; exact (Below.heap_alloc _ _ _ hs3).trans HR3.out)
        have hr4 : w4.heap[w3.heap.size]? = some (.cells #[.int .i64 k, .int .i64 nv] 34 (0, 0)) := by rw [hw4]; exact World.alloc_heap_new _ _
        have HB4 := hide (show Below w.heap.size w w4 by rw [hw4]; exact HB3.out.alloc HB3.out.size _)
        have HN4 := hide hr4
        have Hlt := hide (show w.heap.size < w3.heap.size from hs3)
        have HS4 := hide (show w3.heap.size < w4.heap.size by rw [hw4]; simp)
        have c0 : w4.cell? ⟨w3.heap.size, 0, none⟩ = some (.int .i64 k) := cell_of_row _ _ _ _ _ _ hr4
        have c1 : w4.cell? ⟨w3.heap.size, 1, none⟩ = some (.int .i64 nv) := cell_of_row _ _ _ _ _ _ hr4
        rw [hw4] at c0 c1
        have Hw4 := hide hw4
        clear hr4 hw4 hs0 hs3 hb3
        go_wp2_with fail
        rw [← Hw4.out]
        clear c0 c1
        refine (HL.out _ HB4.out).mono ?_
        rintro e w5 ⟨rfl, hb5⟩
        have hn5 := (hb5.block _ HS4.out).trans HN4.out
        have hr5 := (hb5.block _ (Nat.lt_trans Hlt.out HS4.out)).trans HR4.out
        have HB5 := hide (HB4.out.trans (hb5.mono HB4.out.size))
        have HR5 := hide hr5
        have c0 : w5.cell? ⟨w3.heap.size, 0, none⟩ = some (.int .i64 k) := cell_of_row _ _ _ _ _ _ hn5
        have c1 : w5.cell? ⟨w3.heap.size, 1, none⟩ = some (.int .i64 nv) := cell_of_row _ _ _ _ _ _ hn5
        have z0 : w5.frozen? ⟨w.heap.size, 0, none⟩ = false := frozen_of_row _ _ _ _ _ hr5
        have z1 : w5.frozen? ⟨w.heap.size, 1, none⟩ = false := frozen_of_row _ _ _ _ _ hr5
        have d0 : w5.cell? ⟨w.heap.size, 0, none⟩ = some (.int .i64 0) := cell_of_row _ _ _ _ _ _ hr5
        have d1 : w5.cell? ⟨w.heap.size, 1, none⟩ = some (.int .i64 0) := cell_of_row _ _ _ _ _ _ hr5
        clear hn5 hr5 hb5
        rcases Bool.eq_false_or_eq_true b with hbt | hbf
        · have HE := hide (HFd.out (of_decide_eq_true (Hb.out.symm.trans hbt)))
          rw [hbt] at hq
          have HP := hide (pair_put w5 w.heap.size _ _ (.int .i64 k) (.int .i64 nv) _ HR5.out)
          have HN := hide (HB5.out.trans HP.out.1)
          clear hbt
          go_wp2_with fail
          refine bodyPost_ret (results_row2 (P := Tryd.prog) rfl _ _ w.heap.size _ _ _ _ rfl HP.out.2 Tryd.underlying34 rfl (by kernel_rfl)) rfl ⟨by rw [HE.out]; rfl, HN.out⟩
        · have HN := hide (HNo.out (of_decide_eq_false (Hb.out.symm.trans hbf)))
          rw [hbf] at hq
          clear hbf
          go_wp2_with fail
          go_roundg g0
          case rel => exact ⟨k + 1, rfl, by omega, by omega, hide (by have := HN.out; simpa using this), HB5, HR5⟩
          case measure => omega
end Go.Proofs.YtggdndmjfbiaiaaDoor
