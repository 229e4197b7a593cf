/-
  Texts that belong together: TkRight, TkTo.
-/
import Derived.Test.YtobgbheodlpclaaAutoTkSame
import Derived.Lib.Strings
import Derived.StillTailTactics
import Derived.Deep.RegionHeld3
import Derived.Deep.AppendLies
/-
  Which tokens are right: the program's and the reference's answer; Copy and Literal.
-/
namespace Go.Proofs.Ytobgbheodlpclaa
open Go.RowKit
set_option maxRecDepth 100000

/-- Is a token right? -/
def rightT (t : Tk) : Bool :=
  if t.many = 0 then decide (t.from_ = 0) && decide (1 ≤ (t.data.size : Int)) && decide ((t.data.size : Int) ≤ 16384)
  else decide (0 ≤ t.from_) && decide (0 ≤ t.many) && decide (t.from_ + t.many ≤ 4097) && decide (t.data.size = 0)

theorem no_bytes (s : ByteArray) : s.toList.isEmpty = decide (s.size = 0) := by
  rw [Lib.toList_data]
  obtain ⟨⟨l⟩⟩ := s
  cases l with
  | nil => rfl
  | cons a r => rfl

set_option maxHeartbeats 4000000 in
theorem right_any (t : Tk) (w : World) : Calls Try.prog 39 #[.agg t.cells] w fun e w' => e = .returned (.bool (rightT t)) ∧ Below w.heap.size w w' := by
  obtain ⟨fr, many, data⟩ := t
  show Calls _ _ #[.agg #[.int .i64 fr, .int .i64 many, .string data]] _ _
  have hV : rightT ⟨fr, many, data⟩ = if many = 0 then decide (fr = 0) && decide (1 ≤ (data.size : Int)) && decide ((data.size : Int) ≤ 16384)
    else decide (0 ≤ fr) && decide (0 ≤ many) && decide (fr + many ≤ 4097) && decide (data.size = 0) := rfl
  generalize rightT ⟨fr, many, data⟩ = V at hV ⊢
  have hB := (Below.refl w.heap.size w).alloc (Nat.le_refl _) (.cells #[.int .i64 fr, .int .i64 many, .string data] 71)
  have hnb := no_bytes data
  go_enter Try.func39, Try.ntmps39
  by_cases hm : many = 0
  · rw [if_pos hm] at hV
    have E0 : (many == 0) = true := by rw [hm]; rfl
    by_cases hf : fr = 0
    · have E1 : (fr == 0) = true := by rw [hf]; rfl
      by_cases h1 : (1 : Int) ≤ data.size
      · by_cases h2 : (data.size : Int) ≤ 16384
        · have HV := hide (show V = true by rw [hV, decide_eq_true hf, decide_eq_true h1, decide_eq_true h2]; rfl)
          clear hV hf hm hnb
          go_wp2_with fail
          exact bodyPost_ret (results_tmp rfl _ _ _) rfl ⟨by rw [HV.out]; rfl, hB⟩
        · have HV := hide (show V = false by rw [hV, decide_eq_false h2, Bool.and_false])
          clear hV hf hm hnb
          go_wp2_with fail
          exact bodyPost_ret (results_tmp rfl _ _ _) rfl ⟨by rw [HV.out]; rfl, hB⟩
      · have HV := hide (show V = false by rw [hV, decide_eq_false h1, Bool.and_false, Bool.false_and])
        clear hV hf hm hnb
        go_wp2_with fail
        exact bodyPost_ret (results_tmp rfl _ _ _) rfl ⟨by rw [HV.out]; rfl, hB⟩
    · have E1 : (fr == 0) = false := by simpa using hf
      have HV := hide (show V = false by rw [hV, decide_eq_false hf]; rfl)
      clear hV hf hm hnb
      go_wp2_with fail
      exact bodyPost_ret (results_tmp rfl _ _ _) rfl ⟨by rw [HV.out]; rfl, hB⟩
  · rw [if_neg hm] at hV
    have E0 : (many == 0) = false := by simpa using hm
    by_cases hf : (0 : Int) ≤ fr
    · by_cases h1 : (0 : Int) ≤ many
      · by_cases h2 : fr ≤ 4097
        · have q0 : IntKind.i64.wrap (4097 - fr) = 4097 - fr := IntWalk.i64_in _ (by omega)
          by_cases h3 : many ≤ 4097 - fr
          · have HV := hide (show V = decide (data.size = 0) by rw [hV, decide_eq_true hf, decide_eq_true h1, decide_eq_true (by omega)]; rfl)
            generalize decide (data.size = 0) = D at hnb HV
            have HN := hide hnb
            clear hV hm hnb
            go_wp2_with fail
            exact bodyPost_ret (results_tmp rfl _ _ _) rfl ⟨by rw [HV.out, ← HN.out]; rfl, hB⟩
          · have HV := hide (show V = false by rw [hV, decide_eq_false (show ¬ fr + many ≤ 4097 by omega), Bool.and_false]; rfl)
            clear hV hm hnb
            go_wp2_with fail
            exact bodyPost_ret (results_tmp rfl _ _ _) rfl ⟨by rw [HV.out]; rfl, hB⟩
        · have HV := hide (show V = false by rw [hV, decide_eq_false (show ¬ fr + many ≤ 4097 by omega), Bool.and_false]; rfl)
          clear hV hm hnb
          go_wp2_with fail
          exact bodyPost_ret (results_tmp rfl _ _ _) rfl ⟨by rw [HV.out]; rfl, hB⟩
      · have HV := hide (show V = false by rw [hV, decide_eq_false h1, Bool.and_false]; rfl)
        clear hV hm hnb
        go_wp2_with fail
        exact bodyPost_ret (results_tmp rfl _ _ _) rfl ⟨by rw [HV.out]; rfl, hB⟩
    · have HV := hide (show V = false by rw [hV, decide_eq_false hf]; rfl)
      clear hV hm hnb
      go_wp2_with fail
      exact bodyPost_ret (results_tmp rfl _ _ _) rfl ⟨by rw [HV.out]; rfl, hB⟩

set_option maxHeartbeats 4000000 in
theorem refTRight_any (t : Tk) (w : World) : Calls Try.prog 38 #[.agg t.cells] w fun e w' => e = .returned (.bool (rightT t)) ∧ Below w.heap.size w w' := by
  obtain ⟨fr, many, data⟩ := t
  show Calls _ _ #[.agg #[.int .i64 fr, .int .i64 many, .string data]] _ _
  have hV : rightT ⟨fr, many, data⟩ = if many = 0 then decide (fr = 0) && decide (1 ≤ (data.size : Int)) && decide ((data.size : Int) ≤ 16384)
    else decide (0 ≤ fr) && decide (0 ≤ many) && decide (fr + many ≤ 4097) && decide (data.size = 0) := rfl
  generalize rightT ⟨fr, many, data⟩ = V at hV ⊢
  have hB := (Below.refl w.heap.size w).alloc (Nat.le_refl _) (.cells #[.int .i64 fr, .int .i64 many, .string data] 69)
  go_enter Try.func38, Try.ntmps38
  have hF : (fr < 0 ∨ many < 0 ∨ 4097 < fr ∨ 4097 < many ∨ 4097 < fr + many) → V = false := fun h => by
    rw [hV]
    split
    · rename_i hm
      by_cases hf : fr = 0
      · omega
      · rw [decide_eq_false hf]; rfl
    · by_cases h0 : 0 ≤ fr
      · by_cases h1 : 0 ≤ many
        · rw [decide_eq_false (show ¬ fr + many ≤ 4097 by omega), Bool.and_false]; rfl
        · rw [decide_eq_false h1, Bool.and_false]; rfl
      · rw [decide_eq_false h0]; rfl
  by_cases hf : fr < 0
  · have HV := hide (hF (.inl hf))
    clear hV hF
    go_wp2_with fail
    exact bodyPost_ret (results_tmp rfl _ _ _) rfl ⟨by rw [HV.out]; rfl, hB⟩
  by_cases hm : many < 0
  · have HV := hide (hF (.inr (.inl hm)))
    clear hV hF
    go_wp2_with fail
    exact bodyPost_ret (results_tmp rfl _ _ _) rfl ⟨by rw [HV.out]; rfl, hB⟩
  by_cases hf1 : 4097 < fr
  · have HV := hide (hF (.inr (.inr (.inl hf1))))
    clear hV hF
    go_wp2_with fail
    exact bodyPost_ret (results_tmp rfl _ _ _) rfl ⟨by rw [HV.out]; rfl, hB⟩
  by_cases hm1 : 4097 < many
  · have HV := hide (hF (.inr (.inr (.inr (.inl hm1)))))
    clear hV hF
    go_wp2_with fail
    exact bodyPost_ret (results_tmp rfl _ _ _) rfl ⟨by rw [HV.out]; rfl, hB⟩
  have q0 : IntKind.i64.wrap (fr + many) = fr + many := IntWalk.i64_in _ (by omega)
  by_cases hs : 4097 < fr + many
  · have HV := hide (hF (.inr (.inr (.inr (.inr hs)))))
    clear hV hF
    go_wp2_with fail
    exact bodyPost_ret (results_tmp rfl _ _ _) rfl ⟨by rw [HV.out]; rfl, hB⟩
  clear hF
  by_cases h0 : (0 : Int) < many
  · have hV2 : V = decide (data.size = 0) := by
      rw [hV, if_neg (by omega), decide_eq_true (show 0 ≤ fr by omega), decide_eq_true (show 0 ≤ many by omega), decide_eq_true (show fr + many ≤ 4097 by omega)]; rfl
    have hz : ((data.size : Int) == 0) = decide (data.size = 0) := by
      by_cases h : data.size = 0
      · rw [h]; rfl
      · rw [decide_eq_false h, beq_eq_false_iff_ne]; omega
    generalize decide (data.size = 0) = D at hV2 hz
    have HV := hide hV2
    clear hV hV2
    go_wp2_with fail
    exact bodyPost_ret (results_tmp rfl _ _ _) rfl ⟨by rw [HV.out]; rfl, hB⟩
  · have hm0 : many = 0 := by omega
    rw [if_pos hm0] at hV
    by_cases hf0 : fr = 0
    · have E1 : (fr == 0) = true := by rw [hf0]; rfl
      by_cases h1 : (1 : Int) ≤ data.size
      · by_cases h2 : (data.size : Int) ≤ 16384
        · have HV := hide (show V = true by rw [hV, decide_eq_true hf0, decide_eq_true h1, decide_eq_true h2]; rfl)
          clear hV hf0 hm0
          go_wp2_with fail
          exact bodyPost_ret (results_tmp rfl _ _ _) rfl ⟨by rw [HV.out]; rfl, hB⟩
        · have HV := hide (show V = false by rw [hV, decide_eq_false h2, Bool.and_false])
          clear hV hf0 hm0
          go_wp2_with fail
          exact bodyPost_ret (results_tmp rfl _ _ _) rfl ⟨by rw [HV.out]; rfl, hB⟩
      · have HV := hide (show V = false by rw [hV, decide_eq_false h1, Bool.and_false, Bool.false_and])
        clear hV hf0 hm0
        go_wp2_with fail
        exact bodyPost_ret (results_tmp rfl _ _ _) rfl ⟨by rw [HV.out]; rfl, hB⟩
    · have E1 : (fr == 0) = false := by simpa using hf0
      have HV := hide (show V = false by rw [hV, decide_eq_false hf0]; rfl)
      clear hV hf0 hm0
      go_wp2_with fail
      exact bodyPost_ret (results_tmp rfl _ _ _) rfl ⟨by rw [HV.out]; rfl, hB⟩

theorem copy_any (a b : Int) (w : World) : Calls Try.prog 66 #[.int .i64 a, .int .i64 b] w fun e w' => e = .returned (.agg (Tk.cells ⟨a, b, ⟨#[]⟩⟩)) ∧ Below w.heap.size w w' := by
  have hB := (Below.refl w.heap.size w).alloc (Nat.le_refl _) (.cells #[.int .i64 a, .int .i64 b, .string ⟨#[]⟩] 71)
  have hrow := World.alloc_heap_new w (Obj.cells #[.int .i64 a, .int .i64 b, .string ⟨#[]⟩] 71)
  have y0 : (w.alloc (.cells #[.int .i64 a, .int .i64 b, .string ⟨#[]⟩] 71)).cell? ⟨w.heap.size, 0, none⟩ = some (.int .i64 a) := cell_of_row _ _ _ _ _ _ hrow
  have y1 : (w.alloc (.cells #[.int .i64 a, .int .i64 b, .string ⟨#[]⟩] 71)).cell? ⟨w.heap.size, 1, none⟩ = some (.int .i64 b) := cell_of_row _ _ _ _ _ _ hrow
  have y2 : (w.alloc (.cells #[.int .i64 a, .int .i64 b, .string ⟨#[]⟩] 71)).cell? ⟨w.heap.size, 2, none⟩ = some (.string ⟨#[]⟩) := cell_of_row _ _ _ _ _ _ hrow
  go_enter Try.func66, Try.ntmps66
  go_wp2_with fail
  refine bodyPost_ret (v := .agg #[.int .i64 a, .int .i64 b, .string ⟨#[]⟩]) (by simp [results, Try.results66, go_sem, y0, y1, y2]) rfl ⟨rfl, hB⟩
theorem literal_any (s : ByteArray) (w : World) : Calls Try.prog 85 #[.string s] w fun e w' => e = .returned (.agg (Tk.cells ⟨0, 0, s⟩)) ∧ Below w.heap.size w w' := by
  have hB := (Below.refl w.heap.size w).alloc (Nat.le_refl _) (.cells #[.int .i64 0, .int .i64 0, .string s] 71)
  have hrow := World.alloc_heap_new w (Obj.cells #[.int .i64 0, .int .i64 0, .string s] 71)
  have y0 : (w.alloc (.cells #[.int .i64 0, .int .i64 0, .string s] 71)).cell? ⟨w.heap.size, 0, none⟩ = some (.int .i64 0) := cell_of_row _ _ _ _ _ _ hrow
  have y1 : (w.alloc (.cells #[.int .i64 0, .int .i64 0, .string s] 71)).cell? ⟨w.heap.size, 1, none⟩ = some (.int .i64 0) := cell_of_row _ _ _ _ _ _ hrow
  have y2 : (w.alloc (.cells #[.int .i64 0, .int .i64 0, .string s] 71)).cell? ⟨w.heap.size, 2, none⟩ = some (.string s) := cell_of_row _ _ _ _ _ _ hrow
  go_enter Try.func85, Try.ntmps85
  go_wp2_with fail
  refine bodyPost_ret (v := .agg #[.int .i64 0, .int .i64 0, .string s]) (by simp [results, Try.results85, go_sem, y0, y1, y2]) rfl ⟨rfl, hB⟩
end Go.Proofs.Ytobgbheodlpclaa
/-
  The law's To and From.
-/
namespace Go.Proofs.Ytobgbheodlpclaa
open Go.RowKit
set_option maxRecDepth 100000

set_option maxHeartbeats 16000000 in
theorem to_any (A : Option Addr) (l : List Tk) (c : Nat) (w : World) (hA : RdT w w.heap.size A l) (hl : (l.length : Int) ≤ 1000000) :
    Calls Try.prog 37 #[.slice A l.length c] w fun e w' => ∃ v, e = .returned v ∧ TI w 71 v l w' := by
  obtain ⟨i0, hi, hz0, hz1, hz2⟩ := info_parts info_tk
  have HA := hide hA
  clear hA
  go_enter Try.func37, Try.ntmps37
  go_wp2_with fail
  go_loopg [3, 4] l.length (fun gk ov iv wr => ∃ (i : Nat) (B : Option Addr) (d : Nat), ov = .slice B i d ∧ iv = .int .i64 i ∧ i + gk = l.length ∧ Hid (TI w 71 (.slice B i d) (l.take i) wr))
  case atStart => exact ⟨0, none, 0, rfl, rfl, by omega, hide ⟨Below.refl _ _, World.ownsRow_nil _ _ _ _⟩⟩
  case round =>
    obtain ⟨i, B, d, rfl, rfl, hig, HO⟩ := hrel
    cases gk with
    | zero =>
      obtain rfl : i = l.length := by omega
      have HF := hide (show TI w 71 (.slice B l.length d) l wr by have h := HO.out; rwa [List.take_length] at h)
      clear HO
      go_wp2_with fail
      exact bodyPost_ret (results_tmp rfl _ _ _) rfl ⟨.slice B l.length d, rfl, HF.out⟩
    | succ g0 =>
      have hii : (i : Int) < l.length := by omega
      have hi0 : (0 : Int) ≤ (i : Int) := by omega
      obtain ⟨t, ht⟩ : ∃ t, l[i]? = some t := ⟨_, List.getElem?_eq_getElem (by omega)⟩
      obtain ⟨ad, rfl, hlt, hnd⟩ := (HA.out.below HO.out.below (Nat.le_refl _)) i t ht
      obtain ⟨ad', e', _, q0, q1, q2⟩ := HA.out i t ht
      cases e'
      have hlx : (ad.add (i * 3)).block < w.heap.size := by rw [add_block]; exact hlt
      have hiw : IntKind.i64.wrap ((i : Int) + 1) = ((i + 1 : Nat) : Int) := by rw [IntWalk.i64_in _ (by omega)]; rfl
      have hT := hide (show l.take (i + 1) = l.take i ++ [t] by
        obtain ⟨h1, e1⟩ := List.getElem?_eq_some_iff.1 ht
        rw [← List.take_append_getElem h1, e1])
      obtain ⟨c0, c1, c2⟩ := hnd
      obtain ⟨fr, many, data⟩ := t
      simp only at c0 c1 c2 q0 q1 q2
      clear ht hlt
      go_wp2_with fail
      have hS := hide (fun (W : World) (h : Below w.heap.size w W) => (⟨(h.cell hlx).trans q0, (h.cell (p := ⟨_, _, none⟩) hlx).trans q1, (h.cell (p := ⟨_, _, none⟩) hlx).trans q2⟩ : W.cell? (ad.add (i * 3)) = some (.int .i64 fr) ∧ W.cell? ⟨(ad.add (i * 3)).block, (ad.add (i * 3)).off + 1, none⟩ = some (.int .i64 many) ∧ W.cell? ⟨(ad.add (i * 3)).block, (ad.add (i * 3)).off + 2, none⟩ = some (.string data)))
      have hB1 := HO.out.below.drew
      have hB4 := (HO.out.below.alloc HO.out.below.size (.cells (Tk.cells ⟨fr, many, data⟩) 71)).drew
      have htl : (l.take i).length = i := by rw [List.length_take]; omega
      have hO4 : (wr.alloc (.cells (Tk.cells ⟨fr, many, data⟩) 71)).drew.ownsRow w.heap.size 71 3 (.slice B i d) i (cellsT (l.take i)) := by
        have h := HO.out.own.alloc (.cells (Tk.cells ⟨fr, many, data⟩) 71)
        rw [htl] at h
        exact h
      have HB5 := hide (fun (w5 : World) (hg : (wr.alloc (.cells (Tk.cells ⟨fr, many, data⟩) 71)).drew.grownBy w5 (Value.slice B i d).ownBlock) => hB4.grown hg hB4.size (fun r e => (hO4.lt r e).1))
      have HNew := hide (RdT.one wr ⟨fr, many, data⟩ 71).drew.cell
      have HO4 := hide hO4
      have HB1 := hide hB1
      have HB4 := hide hB4
      have hsz := hB4.size
      clear c0 c1 c2 hB1 hB4 hO4 q0 q1 q2
      go_region_held3 (fun w' => w'.cell? (ad.add (i * 3)) = some (.int .i64 fr) ∧ w'.cell? ⟨(ad.add (i * 3)).block, (ad.add (i * 3)).off + 1, none⟩ = some (.int .i64 many) ∧ w'.cell? ⟨(ad.add (i * 3)).block, (ad.add (i * 3)).off + 2, none⟩ = some (.string data))
        (first | exact hS.out _ HB1.out | exact hS.out _ HB4.out | exact hS.out _ (HB5.out _ hG5))
        (first
          | (refine step_append_lies _ rfl (.tmp 11) (.tmp 28) 65 rfl w.heap.size 71 i0 _ 3 32 Try.underlying65 hi hz0 hz1 hz2 rfl (by decide) _ i _ rfl HO4.out ⟨wr.heap.size, 0, none⟩ 1 1 (cellsT [⟨fr, many, data⟩]) rfl rfl HNew.out (cellsT_one _) (by decide) (by unfold maxLen; omega) (by omega) hsz _ rfl ?_
             intro g cap w5 hO5 hG5 hat hlt5))
      all_goals
        have HO6 := hide (show TI w 71 (.slice (some ⟨g, 0, none⟩) (i + 1) cap) (l.take (i + 1)) w5 from ⟨HB5.out _ hG5, by rw [hT.out, cellsT_app, List.length_append, htl]; exact hO5⟩)
        clear hO5 hG5 hat hlt5
        go_wp2_with fail
        go_roundg g0
        case rel => exact ⟨i + 1, some ⟨g, 0, none⟩, cap, rfl, rfl, by omega, HO6⟩
        case measure => omega

set_option maxHeartbeats 16000000 in
theorem from_any (A : Option Addr) (l : List Tk) (c : Nat) (w : World) (hA : RdT w w.heap.size A l) (hl : (l.length : Int) ≤ 1000000) :
    Calls Try.prog 47 #[.slice A l.length c] w fun e w' => ∃ v, e = .returned v ∧ TI w 69 v l w' := by
  obtain ⟨i0, hi, hz0, hz1, hz2⟩ := info_parts info_rtk
  have HA := hide hA
  clear hA
  go_enter Try.func47, Try.ntmps47
  go_wp2_with fail
  go_loopg [3, 4] l.length (fun gk ov iv wr => ∃ (i : Nat) (B : Option Addr) (d : Nat), ov = .slice B i d ∧ iv = .int .i64 i ∧ i + gk = l.length ∧ Hid (TI w 69 (.slice B i d) (l.take i) wr))
  case atStart => exact ⟨0, none, 0, rfl, rfl, by omega, hide ⟨Below.refl _ _, World.ownsRow_nil _ _ _ _⟩⟩
  case round =>
    obtain ⟨i, B, d, rfl, rfl, hig, HO⟩ := hrel
    cases gk with
    | zero =>
      obtain rfl : i = l.length := by omega
      have HF := hide (show TI w 69 (.slice B l.length d) l wr by have h := HO.out; rwa [List.take_length] at h)
      clear HO
      go_wp2_with fail
      exact bodyPost_ret (results_tmp rfl _ _ _) rfl ⟨.slice B l.length d, rfl, HF.out⟩
    | succ g0 =>
      have hii : (i : Int) < l.length := by omega
      have hi0 : (0 : Int) ≤ (i : Int) := by omega
      obtain ⟨t, ht⟩ : ∃ t, l[i]? = some t := ⟨_, List.getElem?_eq_getElem (by omega)⟩
      obtain ⟨ad, rfl, hlt, hnd⟩ := (HA.out.below HO.out.below (Nat.le_refl _)) i t ht
      obtain ⟨ad', e', _, q0, q1, q2⟩ := HA.out i t ht
      cases e'
      have hlx : (ad.add (i * 3)).block < w.heap.size := by rw [add_block]; exact hlt
      have hiw : IntKind.i64.wrap ((i : Int) + 1) = ((i + 1 : Nat) : Int) := by rw [IntWalk.i64_in _ (by omega)]; rfl
      have hT := hide (show l.take (i + 1) = l.take i ++ [t] by
        obtain ⟨h1, e1⟩ := List.getElem?_eq_some_iff.1 ht
        rw [← List.take_append_getElem h1, e1])
      obtain ⟨c0, c1, c2⟩ := hnd
      obtain ⟨fr, many, data⟩ := t
      simp only at c0 c1 c2 q0 q1 q2
      clear ht hlt
      go_wp2_with fail
      have hS := hide (fun (W : World) (h : Below w.heap.size w W) => (⟨(h.cell hlx).trans q0, (h.cell (p := ⟨_, _, none⟩) hlx).trans q1, (h.cell (p := ⟨_, _, none⟩) hlx).trans q2⟩ : W.cell? (ad.add (i * 3)) = some (.int .i64 fr) ∧ W.cell? ⟨(ad.add (i * 3)).block, (ad.add (i * 3)).off + 1, none⟩ = some (.int .i64 many) ∧ W.cell? ⟨(ad.add (i * 3)).block, (ad.add (i * 3)).off + 2, none⟩ = some (.string data)))
      have hB1 := HO.out.below.drew
      have hB4 := (HO.out.below.alloc HO.out.below.size (.cells (Tk.cells ⟨fr, many, data⟩) 69)).drew
      have htl : (l.take i).length = i := by rw [List.length_take]; omega
      have hO4 : (wr.alloc (.cells (Tk.cells ⟨fr, many, data⟩) 69)).drew.ownsRow w.heap.size 69 3 (.slice B i d) i (cellsT (l.take i)) := by
        have h := HO.out.own.alloc (.cells (Tk.cells ⟨fr, many, data⟩) 69)
        rw [htl] at h
        exact h
      have HB5 := hide (fun (w5 : World) (hg : (wr.alloc (.cells (Tk.cells ⟨fr, many, data⟩) 69)).drew.grownBy w5 (Value.slice B i d).ownBlock) => hB4.grown hg hB4.size (fun r e => (hO4.lt r e).1))
      have HNew := hide (RdT.one wr ⟨fr, many, data⟩ 69).drew.cell
      have HO4 := hide hO4
      have HB1 := hide hB1
      have HB4 := hide hB4
      have hsz := hB4.size
      clear c0 c1 c2 hB1 hB4 hO4 q0 q1 q2
      go_region_held3 (fun w' => w'.cell? (ad.add (i * 3)) = some (.int .i64 fr) ∧ w'.cell? ⟨(ad.add (i * 3)).block, (ad.add (i * 3)).off + 1, none⟩ = some (.int .i64 many) ∧ w'.cell? ⟨(ad.add (i * 3)).block, (ad.add (i * 3)).off + 2, none⟩ = some (.string data))
        (first | exact hS.out _ HB1.out | exact hS.out _ HB4.out | exact hS.out _ (HB5.out _ hG5))
        (first
          | (refine step_append_lies _ rfl (.tmp 11) (.tmp 28) 63 rfl w.heap.size 69 i0 _ 3 32 Try.underlying63 hi hz0 hz1 hz2 rfl (by decide) _ i _ rfl HO4.out ⟨wr.heap.size, 0, none⟩ 1 1 (cellsT [⟨fr, many, data⟩]) rfl rfl HNew.out (cellsT_one _) (by decide) (by unfold maxLen; omega) (by omega) hsz _ rfl ?_
             intro g cap w5 hO5 hG5 hat hlt5))
      all_goals
        have HO6 := hide (show TI w 69 (.slice (some ⟨g, 0, none⟩) (i + 1) cap) (l.take (i + 1)) w5 from ⟨HB5.out _ hG5, by rw [hT.out, cellsT_app, List.length_append, htl]; exact hO5⟩)
        clear hO5 hG5 hat hlt5
        go_wp2_with fail
        go_roundg g0
        case rel => exact ⟨i + 1, some ⟨g, 0, none⟩, cap, rfl, rfl, by omega, HO6⟩
        case measure => omega
end Go.Proofs.Ytobgbheodlpclaa
