/-
  vint.Num and Text put bytes behind others.
-/
import Derived.Test.YtlbhgebjmekclaaDoorVintGroups
import Derived.Lib.ConvBytes
import Derived.Laws.BytesArg
namespace Go.Proofs.YtlbhgebjmekclaaDoor
open Go.RowKit
set_option maxRecDepth 100000

theorem cat_three (A B D : Option Addr) (l m r : List UInt8) (c d f : Nat) (w : World) (hA : RdB w w.heap.size A l) (hB : RdB w w.heap.size B m) (hD : RdB w w.heap.size D r) (hl : l.length ≤ 1000000) (hm : m.length ≤ 1000000) (hr : r.length ≤ 1000000) (t : TypeId) :
    Calls Tryd.prog 39 #[.slice (some ⟨w.heap.size, 0, none⟩) 3 3] (w.alloc (.cells #[.slice A l.length c, .slice B m.length d, .slice D r.length f] t)) (Bytes w (l ++ m ++ r)) := by
  have hnew := World.alloc_heap_new w (Obj.cells #[.slice A l.length c, .slice B m.length d, .slice D r.length f] t)
  have hb : Below w.heap.size w (w.alloc (.cells #[.slice A l.length c, .slice B m.length d, .slice D r.length f] t)) := (Below.refl _ w).alloc (Nat.le_refl _) _
  have h := concat_any w.heap.size 3 [(A, l, c), (B, m, d), (D, r, f)] (w.alloc (.cells #[.slice A l.length c, .slice B m.length d, .slice D r.length f] t)) (fun k x hx => by
    rcases k with _ | _ | _ | k
    · simp at hx; subst hx; exact cell_of_row _ _ _ _ _ _ hnew
    · simp at hx; subst hx; exact cell_of_row _ _ _ _ _ _ hnew
    · simp at hx; subst hx; exact cell_of_row _ _ _ _ _ _ hnew
    · simp at hx) (by simp) (fun x hx => by
    simp at hx
    rcases hx with rfl | rfl | rfl
    · exact hA.step hb
    · exact hB.step hb
    · exact hD.step hb) (by simp) (fun x hx => by
    simp at hx
    rcases hx with rfl | rfl | rfl <;> assumption)
  refine h.mono fun e w' hw => ?_
  have e1 : allB [(A, l, c), (B, m, d), (D, r, f)] = l ++ m ++ r := by simp [allB]
  rw [e1] at hw
  exact hw.back hb
theorem groupsL_le (n : Nat) : (groupsL n).length ≤ 10 := groups_le 9 n

set_option maxHeartbeats 1000000 in
theorem putNum_any (A : Option Addr) (l : List UInt8) (c n : Nat) (w : World) (hR : RdB w w.heap.size A l) (hl : l.length ≤ 1000000) (hn : n < 18446744073709551616) :
    Calls Tryd.prog 41 #[.slice A l.length c, .int .u64 n] w (Bytes w (l ++ groupsL n)) := by
  go_enter Tryd.func41, Tryd.ntmps41
  go_wp2_with fail
  refine (groups_any n w hn).mono ?_
  rintro e w1 ⟨G, gc, rfl, _, hG, hB1⟩
  have hR1 := hR.step hB1
  have hgl := groupsL_le n
  go_wp2_with fail
  refine (cat_two A G l (groupsL n) c gc w1 hR1 hG hl (by omega) _).mono ?_
  rintro e w2 hw2
  obtain ⟨D, d, rfl, h2, h3, h4⟩ := hw2.back hB1
  go_wp2_with fail
  refine bodyPost_ret (results_tmp rfl _ _ _) rfl ⟨D, d, by simp only [List.length_append]; rfl, h2, h3, h4⟩

set_option maxHeartbeats 1000000 in
theorem putText_any (A : Option Addr) (l : List UInt8) (c : Nat) (s : ByteArray) (w : World) (hR : RdB w w.heap.size A l) (hl : l.length ≤ 1000000) (hs : s.size ≤ 1000000) :
    Calls Tryd.prog 20 #[.slice A l.length c, .string s] w (Bytes w (l ++ (groupsL s.size ++ toL s))) := by
  have hsl : (toL s).length = s.size := by simp [toL]
  have hsi : (s.size : Int) ≤ 1000000 := by omega
  go_enter Tryd.func20, Tryd.ntmps20
  go_wp2_with fail
  refine (groups_any s.size w (by omega)).mono ?_
  rintro e w1 ⟨G, gc, rfl, _, hG, hB1⟩
  have hR1 := hR.step hB1
  have hgl := groupsL_le s.size
  have hrun := Lib.run_convert_string_bytes (P := Tryd.prog) w1 9 28 5 s Tryd.underlying9 Tryd.underlying28 Tryd.underlying5
  obtain ⟨hM, hBM⟩ := made_bytes w1 s
  have hR2 := hR1.step hBM
  have hG2 := hG.step hBM
  have hB2 := hB1.trans (hBM.mono hB1.size)
  generalize Lib.bytesWorld w1 5 s = w2 at hrun hM hBM hR2 hG2 hB2
  generalize grownCap w1 s.size 0 5 = K at hrun
  go_wp2_with fail
  have hcat := cat_three A G (some ⟨w1.heap.size, 0, none⟩) l (groupsL s.size) (toL s) c gc K w2 hR2 hG2 hM hl (by omega) (by omega) 28
  rw [hsl, List.append_assoc] at hcat
  refine hcat.mono ?_
  rintro e w3 hw3
  obtain ⟨D, d, rfl, h2, h3, h4⟩ := hw3.back hB2
  go_wp2_with fail
  refine bodyPost_ret (results_tmp rfl _ _ _) rfl ⟨D, d, by simp only [List.length_append, hsl]; rfl, h2, h3, h4⟩
end Go.Proofs.YtlbhgebjmekclaaDoor
