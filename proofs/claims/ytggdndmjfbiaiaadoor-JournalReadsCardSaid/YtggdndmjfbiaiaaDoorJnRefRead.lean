/-
  The reference's Read: the records of a text.
-/
import Derived.Test.YtggdndmjfbiaiaaDoorJnOne
import Derived.Test.YtggdndmjfbiaiaaDoorJnLineMath
import Derived.Test.YtggdndmjfbiaiaaDoorJnRecs
import Derived.OwnWalk
namespace Go.Proofs.YtggdndmjfbiaiaaDoor
open Go.RowKit
set_option maxRecDepth 100000

theorem read_len (s : List UInt8) : (readJ (linesL s)).length ≤ s.length := by
  have h1 := (lines_in _ s (Nat.le_refl _)).1
  have h2 : ∀ l : List (List UInt8), (readJ l).length ≤ l.length := by
    intro l
    induction l with
    | nil => exact Nat.le_refl _
    | cons x t ih =>
      cases h : recJ x with
      | none => rw [readJ_no h]; simp
      | some p => rw [readJ_yes h]; simpa using ih
  have := h2 (linesL s)
  omega
set_option maxHeartbeats 8000000 in
theorem refRead_any (s : ByteArray) (w : World) (hs : (s.size : Int) ≤ 100000) :
    Calls Tryd.prog 10 #[.string s] w fun e w' => ∃ v, e = .returned v ∧ RI w 33 v (readJ (linesL (toL s))) w' := by
  obtain ⟨i0, hi, hz0, hz1, hz2⟩ := info_parts info_rrec
  obtain ⟨R, hRe⟩ : ∃ R, R = readJ (linesL (toL s)) := ⟨_, rfl⟩
  have HRl := hide (show R.length ≤ s.size by rw [hRe]; have := read_len (toL s); rw [size_toL] at this; exact this)
  have HRe := hide hRe
  rw [← hRe]
  clear hRe
  go_enter Tryd.func10, Tryd.ntmps10
  go_wp2_with fail
  go_loopg [3, 4, 5] s.size (fun gk ov fv iv wr => ∃ (B : Option Addr) (d f i : Nat) (us : List (Int × Int)), ov = .slice B us.length d ∧ fv = .int .i64 f ∧ iv = .int .i64 i ∧ i + gk = s.size ∧ f ≤ i ∧ Hid (∀ c ∈ ((toL s).drop f).take (i - f), c ≠ 10) ∧ Hid (R = us ++ readJ (linesL ((toL s).drop f))) ∧ Hid (RI w 33 (.slice B us.length d) us wr))
  case atStart => exact ⟨none, 0, 0, 0, [], rfl, rfl, rfl, by omega, Nat.le_refl _, hide (by simp), hide (by rw [HRe.out]; simp), hide ⟨Below.refl _ _, World.ownsRow_nil _ _ _ _⟩⟩
  case round =>
    obtain ⟨B, d, f, i, us, rfl, rfl, rfl, hig, hfi, HNo, HU, HI⟩ := hrel
    cases gk with
    | zero =>
      obtain rfl : i = s.size := by omega
      have HE := hide (show us = R by
        rw [HU.out, read_bare (fun c hc => HNo.out c (by rw [List.take_of_length_le (by rw [List.length_drop, size_toL]; omega)]; exact hc)), List.append_nil])
      clear HNo HU
      go_wp2_with fail
      exact bodyPost_ret (results_tmp rfl _ _ _) rfl ⟨_, rfl, by rw [← HE.out]; exact HI.out⟩
    | succ g0 =>
      have hil : i < s.size := by omega
      have hili : (i : Int) < s.size := by omega
      have hi0 : (0 : Int) ≤ i := by omega
      have HBy := hide (at_byte s i hil)
      have hbd : ((toL s).drop f)[i - f]? = some s[i] := by rw [List.getElem?_drop, show f + (i - f) = i by omega, HBy.out]
      by_cases h10 : (s[i].toNat : Int) = 10
      · have h3 : ((s[i].toNat : Int) != 10) = false := by rw [h10]; rfl
        have hb10 : s[i] = 10 := by apply UInt8.toNat_inj.1; show s[i].toNat = 10; omega
        have hsplit : (toL s).drop f = ((toL s).drop f).take (i - f) ++ 10 :: (toL s).drop (i + 1) := by
          rw [hb10] at hbd
          have h1 := (List.getElem?_eq_some_iff.1 hbd)
          obtain ⟨hlt, h2⟩ := h1
          conv => lhs; rw [← List.take_append_drop (i - f) ((toL s).drop f)]
          congr 1
          rw [List.drop_eq_getElem_cons hlt, h2, List.drop_drop, show f + (i - f + 1) = i + 1 by omega]
        have hln : toL (s.extract f (i + 1)) = ((toL s).drop f).take (i - f) ++ [10] := by
          unfold toL at hsplit ⊢
          rw [Lib.extract_data, show i + 1 - f = (i - f) + 1 by omega, List.take_add_one]
          congr 1
          show (((toL s).drop f)[i - f]?).toList = [10]
          rw [hbd, hb10]; rfl
        have hL : linesL ((toL s).drop f) = toL (s.extract f (i + 1)) :: linesL ((toL s).drop (i + 1)) := by
          rw [hln]
          conv => lhs; rw [hsplit]
          exact lines_feed _ _ HNo.out
        have hxs : (s.extract f (i + 1)).size = i + 1 - f := by rw [ByteArray.size_extract]; omega
        have HO := hide (fun W => one_any (s.extract f (i + 1)) W (by omega) (by omega))
        have HU2 := HU.out
        rw [hL] at HU2
        have hfw : IntKind.i64.wrap ((i : Int) + 1) = ((i + 1 : Nat) : Int) := by rw [IntWalk.i64_in _ (by omega)]; rfl
        have hf0 : (0 : Int) ≤ f := by omega
        have hf1 : (f : Int) ≤ ((i + 1 : Nat) : Int) := by omega
        have hf2 : ((i + 1 : Nat) : Int) ≤ s.size := by omega
        have hul : us.length ≤ s.size := by
          have h1 := HRl.out
          rw [HU2, List.length_append] at h1
          omega
        obtain ⟨x, hx⟩ : ∃ x, x = s.extract f (i + 1) := ⟨_, rfl⟩
        rw [← hx] at HO HU2
        have Hx := hide hx
        clear hx hln hL hsplit hbd hxs hb10
        cases hr : recJ (toL x) with
        | none =>
          rw [readJ_no hr, List.append_nil] at HU2
          rw [show recV (toL x) = #[.agg #[.int .i64 0, .int .i64 0], .bool false] by unfold recV; rw [hr]] at HO
          have HE := hide HU2.symm
          clear HU2 hr HU HNo HBy
          go_wp2_with fail
          rw [← Hx.out]
          refine (HO.out _).mono ?_
          rintro e w3 ⟨rfl, hb3⟩
          have HI3 := hide (HI.out.step (hb3.alloc hb3.size (.cells #[.int .i64 0, .int .i64 0] 33)))
          clear hb3
          go_wp2_with fail
          exact bodyPost_ret (results_tmp rfl _ _ _) rfl ⟨_, rfl, by rw [← HE.out]; exact HI3.out⟩
        | some p =>
          obtain ⟨pk, pn⟩ := p
          rw [readJ_yes hr] at HU2
          rw [show recV (toL x) = #[.agg #[.int .i64 pk, .int .i64 pn], .bool true] by unfold recV; rw [hr]] at HO
          have HUN := hide (show R = (us ++ [(pk, pn)]) ++ readJ (linesL ((toL s).drop (i + 1))) by rw [HU2]; simp)
          clear HU2 hr HU HNo HBy
          go_wp2_with fail
          rw [← Hx.out]
          refine (HO.out _).mono ?_
          rintro e w3 ⟨rfl, hb3⟩
          have hI4 := HI.out.step (hb3.alloc hb3.size (.cells #[.int .i64 pk, .int .i64 pn] 33))
          obtain ⟨w4, hw4⟩ : ∃ w4, w4 = w3.alloc (.cells #[.int .i64 pk, .int .i64 pn] 33) := ⟨_, rfl⟩
          rw [← hw4] at hI4
          have hr4 : w4.heap[w3.heap.size]? = some (.cells #[.int .i64 pk, .int .i64 pn] 33 (0, 0)) := by rw [hw4]; exact World.alloc_heap_new _ _
          have c0 : w4.cell? ⟨w3.heap.size, 0, none⟩ = some (.int .i64 pk) := cell_of_row _ _ _ _ _ _ hr4
          have c1 : w4.cell? ⟨w3.heap.size, 1, none⟩ = some (.int .i64 pn) := cell_of_row _ _ _ _ _ _ hr4
          have hOwn := hI4.own
          have hsz := hI4.below.size
          have HI4 := hide hI4
          have HA4 := hide (hI4.below.alloc hI4.below.size (.cells #[.int .i64 pk, .int .i64 pn] 33))
          have hNew : ∀ j u, (cellsR [(pk, pn)])[j]? = some u → (w4.alloc (.cells #[.int .i64 pk, .int .i64 pn] 33)).cell? ((⟨w3.heap.size + 1, 0, none⟩ : Addr).add j) = some u := by
            have h := new_rec w4 pk pn 33
            rw [show w4.heap.size = w3.heap.size + 1 by rw [hw4]; simp] at h
            exact h
          rw [hw4] at c0 c1 hOwn hsz hNew
          have Hw4 := hide hw4
          clear hI4 hw4 hr4 hb3
          go_wp2_with (at_builtin; refine wpList_append_own _ rfl _ _ 24 rfl w.heap.size 33 i0 _ 2 16 Tryd.underlying24 hi hz0 hz1 hz2 rfl (by decide) _ _ _ rfl (hOwn.alloc _) ⟨w3.heap.size + 1, 0, none⟩ 1 1 (cellsR [(pk, pn)]) rfl rfl hNew (cellsR_one _) (by unfold maxLen; omega) (by omega) (by rw [World.size_alloc]; omega) ?_)
          intro v' w' hO' hg hnil
          obtain ⟨A', c', rfl⟩ := ownsRow_slice hO'
          have HIN := hide (show RI w 33 (.slice A' (us ++ [(pk, pn)]).length c') (us ++ [(pk, pn)]) w' from by
            refine ⟨?_, ?_⟩
            · have h := HA4.out
              rw [Hw4.out] at h
              exact h.grown hg h.size (fun r e => (hOwn.lt r e).1)
            · rw [List.length_append, cellsR_app]; exact hO')
          have hlen : (us ++ [(pk, pn)]).length = us.length + 1 := by simp
          clear hO' hg hnil c0 c1 hOwn hsz hNew HA4 HI4
          go_wp2_with fail
          rw [← hlen]
          go_roundg g0
          case rel => exact ⟨A', c', i + 1, i + 1, us ++ [(pk, pn)], rfl, rfl, rfl, by omega, Nat.le_refl _, hide (by rw [Nat.sub_self, List.take_zero]; simp), HUN, HIN⟩
          case measure => omega
      · have h3 : ((s[i].toNat : Int) != 10) = true := by simpa using h10
        have HN := hide (show ∀ c ∈ ((toL s).drop f).take (i + 1 - f), c ≠ 10 from fun c hc => by
          rw [show i + 1 - f = (i - f) + 1 by omega, List.take_add_one, hbd] at hc
          rcases List.mem_append.1 hc with hc | hc
          · exact HNo.out c hc
          · simp at hc
            rw [hc]
            intro e
            apply h10
            rw [e]; rfl)
        clear HNo HBy hbd
        go_wp2_with fail
        go_roundg g0
        case rel => exact ⟨B, d, f, i + 1, us, rfl, rfl, rfl, by omega, by omega, HN, HU, HI⟩
        case measure => omega
end Go.Proofs.YtggdndmjfbiaiaaDoor
