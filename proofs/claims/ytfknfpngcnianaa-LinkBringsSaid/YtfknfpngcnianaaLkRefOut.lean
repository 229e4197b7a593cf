/-
  The reference's Do, where there is no such packet.
-/
import Derived.Test.YtfknfpngcnianaaLkRefDo
namespace Go.Proofs.Ytfknfpngcnianaa
open Go.RowKit
set_option maxRecDepth 100000

set_option maxHeartbeats 8000000 in
theorem refDo_out (k : Nat) (hk : k < 2) (kd i at_ : Int) (mask : Nat) (b : List UInt8) (X : Array Value) (q : Way) (A : Option Addr) (c : Nat) (w : World) (hX : X.size = 6) (h1 : ∀ v ∈ X.toList, v.oneCell' = true) (h : SAt w X k q A c) (h0 : kd ≠ 0) (hi : i < 0 ∨ (q.l.length : Int) ≤ i) :
    Calls Try.prog 9 #[.agg X, .agg (actC kd k i at_ mask b)] w fun e w' => e = .returned (.tuple #[.agg X, .string ⟨#[]⟩, .bool false]) ∧ Below w.heap.size w w' := by
  obtain ⟨r0, r1, r2, hW⟩ := rows3 w X (actC kd k i at_ mask b) zero6 31 34 31
  have hk2 : (k : Int) < 2 := by omega
  have e1 := cell_of_row _ _ 1 _ _ _ r1
  have e0 := cell_of_row _ _ 0 _ _ _ r1
  have e2 := cell_of_row _ _ 2 _ _ _ r1
  have ek := (cell_of_row _ _ k _ _ _ r0).trans h.row
  have tk : (kd == 0) = false := by simpa using h0
  have HX := hide (st_size hX)
  have HA1 := hide (all_of h1)
  have H6 := hide hX
  unfold zero6 actC at *
  clear h h1 hX h0
  have key : ∀ (tz : (i < 0) ∨ (decide (i < 0) = false ∧ (q.l.length : Int) ≤ i)), Calls Try.prog 9 #[.agg X, .agg #[.int .i64 kd, .int .i64 k, .int .i64 i, .int .i64 at_, .int .u32 mask, .string (ofL b)]] w fun e w' => e = .returned (.tuple #[.agg X, .string ⟨#[]⟩, .bool false]) ∧ Below w.heap.size w w' := by
    intro tz
    rcases two_ways hk with t0 | ⟨t0, t1⟩
    all_goals
      clear hk
      go_enter Try.func9, Try.ntmps9
      go_upto_region 7 with fail
      have r2 : (((w.alloc (.cells X 31)).alloc (.cells #[.int .i64 kd, .int .i64 k, .int .i64 i, .int .i64 at_, .int .u32 mask, .string (ofL b)] 34)).alloc (.cells #[.slice none 0 0, .slice none 0 0, .int .i64 0, .int .i64 0, .int .i64 0, .int .i64 0] 31)).heap[w.heap.size + 1 + 1]? = _ := r2
      generalize (((w.alloc (.cells X 31)).alloc (.cells #[.int .i64 kd, .int .i64 k, .int .i64 i, .int .i64 at_, .int .u32 mask, .string (ofL b)] 34)).alloc (.cells #[.slice none 0 0, .slice none 0 0, .int .i64 0, .int .i64 0, .int .i64 0, .int .i64 0] 31)) = V at r0 r1 r2 hW e0 e1 e2 ek ⊢
      rcases tz with tz | ⟨tz, tz2⟩
      all_goals
        go_quiet (fail)
        rename_i nq
        have r0 : (V.drewN nq).heap[w.heap.size]? = _ := r0
        have r2 : (V.drewN nq).heap[w.heap.size + 1 + 1]? = _ := r2
        have hW := below_drewN hW nq
        clear e0 e1 e2 ek r1
        generalize V.drewN nq = V2 at r0 r2 hW ⊢
        go_wp2_with (first
          | (refine wpList_load_row rfl 31 (.tmp 2) rfl w.heap.size rfl 31 X (0, 0) _ r0 Try.underlying31 rfl HX.out ?_)
          | (refine wpList_store_row rfl 31 (.tmp 4) (.tmp 51) rfl (w.heap.size + 1 + 1) X rfl rfl 31 _ r2 HX.out (by rw [H6.out]; rfl) HA1.out ?_))
        exact bodyPost_ret (results_row3 rfl _ _ (w.heap.size + 1 + 1) 31 X (0, 0) _ rfl (setRow_heap V2 _ _ X _ _ r2) Try.underlying31 rfl HX.out) rfl ⟨rfl, below_row hW (by omega) X⟩
  rcases hi with hi | hi
  · exact key (.inl hi)
  · by_cases hz : i < 0
    · exact key (.inl hz)
    · exact key (.inr ⟨by simpa using hz, hi⟩)
end Go.Proofs.Ytfknfpngcnianaa
