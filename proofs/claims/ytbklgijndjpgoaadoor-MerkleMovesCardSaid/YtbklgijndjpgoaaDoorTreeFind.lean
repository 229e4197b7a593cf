/-
  tree.Find: the node at a path (10.2), by slices.IndexFunc over a function that holds the path.
-/
import Derived.Test.YtbklgijndjpgoaaDoorMkTrees
namespace Go.Proofs.YtbklgijndjpgoaaDoor
open Go.RowKit
set_option maxRecDepth 100000

set_option maxHeartbeats 1000000 in
theorem find1_any (n : Nd) (b : Nat) (p : ByteArray) (w : World) (hb : b < w.heap.size) (c : w.heap[b]? = some (.cells #[.string p] 9 (0, 0))) :
    Calls Tryd.prog 58 #[.agg n.cells, .pointer (some ⟨b, 0, none⟩)] w fun e w' => e = .returned (.bool (hit p n)) ∧ Below w.heap.size w w' := by
  obtain ⟨path, kind, mode, time, data⟩ := n
  show Calls _ _ #[.agg #[.string path, .int .i64 kind, .int .i64 mode, .int .i64 time, .string data], _] _ _
  have hB0 : Below w.heap.size w (w.alloc (.cells #[.string path, .int .i64 kind, .int .i64 mode, .int .i64 time, .string data] 34)) := (Below.refl _ w).alloc (Nat.le_refl _) _
  have r0 := World.alloc_heap_new w (Obj.cells #[.string path, .int .i64 kind, .int .i64 mode, .int .i64 time, .string data] 34)
  have c0 : (w.alloc (.cells #[.string path, .int .i64 kind, .int .i64 mode, .int .i64 time, .string data] 34)).cell? ⟨w.heap.size, 0, none⟩ = some (.string path) := cell_of_row _ _ _ _ _ _ r0
  have c1 : (w.alloc (.cells #[.string path, .int .i64 kind, .int .i64 mode, .int .i64 time, .string data] 34)).cell? ⟨b, 0, none⟩ = some (.string p) := cell_of_row _ _ _ _ _ _ ((Below.heap_alloc _ _ _ hb).trans c)
  clear r0 c
  go_enter Tryd.func58, Tryd.ntmps58
  go_wp2_with fail
  exact bodyPost_ret (results_tmp rfl _ _ _) rfl ⟨rfl, hB0⟩

set_option maxHeartbeats 4000000 in
theorem indexNode_any (A : Option Addr) (l : List Nd) (c b : Nat) (p : ByteArray) (w : World) (hA : RdN w w.heap.size A l) (hl : (l.length : Int) ≤ 1000000) (hb : b < w.heap.size) (hc : w.heap[b]? = some (.cells #[.string p] 9 (0, 0))) :
    Calls Tryd.prog 57 #[.slice A l.length c, .func (.func 58) #[] #[.pointer (some ⟨b, 0, none⟩)]] w fun e w' => e = .returned (.int .i64 (atL p l)) ∧ Below w.heap.size w w' := by
  obtain ⟨V, hV⟩ : ∃ V, V = atL p l := ⟨_, rfl⟩
  rw [← hV]
  have HV := hide (show atFrom p 0 (l.drop 0) = V by rw [hV]; rfl)
  have HC := hide (And.intro hb hc)
  clear hV hb hc
  go_enter Tryd.func57, Tryd.ntmps57
  go_wp2_with fail
  go_loopg [8] l.length (fun gk iv wr => ∃ i : Nat, iv = .int .i64 i ∧ i + gk = l.length ∧ Hid (atFrom p i (l.drop i) = V) ∧ Below w.heap.size w wr ∧ RdN wr wr.heap.size A l)
  case atStart => exact ⟨0, rfl, by omega, HV, Below.refl _ _, hA⟩
  case round =>
    obtain ⟨i, rfl, hig, HB, hB, hR⟩ := hrel
    clear hA
    cases gk with
    | zero =>
      obtain rfl : i = l.length := by omega
      have HE := hide (show V = -1 by rw [← HB.out, List.drop_length]; rfl)
      clear HB
      go_wp2_with fail
      exact bodyPost_ret (results_tmp rfl _ _ _) rfl ⟨by rw [HE.out]; rfl, hB⟩
    | succ g0 =>
      have hii : (i : Int) < l.length := by omega
      obtain ⟨n, hn⟩ : ∃ n, l[i]? = some n := ⟨_, List.getElem?_eq_getElem (by omega)⟩
      obtain ⟨ad, rfl, hlt, hnd⟩ := hR i n hn
      have hd := HB.out
      rw [at_drop p l i n hn] at hd
      have HM := hide (find1_any n b p wr (Nat.lt_of_lt_of_le HC.out.1 hB.size) ((hB.block _ HC.out.1).trans HC.out.2))
      obtain ⟨path, kind, mode, time, data⟩ := n
      obtain ⟨c0, c1, c2, c3, c4⟩ := hnd
      simp only at c0 c1 c2 c3 c4
      generalize hit p ⟨path, kind, mode, time, data⟩ = K at HM hd
      clear HB hn
      cases K with
      | true =>
        rw [if_pos rfl] at hd
        have HD := hide hd
        clear hd
        go_wp2_with (go_at_call 58; refine HM.out.mono ?_; rintro e w3 ⟨rfl, hb3⟩)
        exact bodyPost_ret (results_tmp rfl _ _ _) rfl ⟨by rw [← HD.out]; rfl, hB.trans (hb3.mono hB.size)⟩
      | false =>
        rw [if_neg (by decide)] at hd
        have HD := hide hd
        have hiw : IntKind.i64.wrap ((i : Int) + 1) = ((i + 1 : Nat) : Int) := by rw [IntWalk.i64_in _ (by omega)]; rfl
        clear hd
        go_wp2_with (go_at_call 58; refine HM.out.mono ?_; rintro e w3 ⟨rfl, hb3⟩)
        go_roundg g0
        case rel => exact ⟨i + 1, rfl, by omega, HD, hB.trans (hb3.mono hB.size), hR.step hb3⟩
        case measure => omega
end Go.Proofs.YtbklgijndjpgoaaDoor
