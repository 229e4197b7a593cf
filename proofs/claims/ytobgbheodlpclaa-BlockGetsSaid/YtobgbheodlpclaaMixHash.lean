/-
  mix.Hash: what it keeps; Len, whole.
-/
import Derived.Test.YtobgbheodlpclaaMixWord
namespace Go.Proofs.Ytobgbheodlpclaa
open Go.RowKit
set_option maxRecDepth 100000

/-- The first q words of bytes, the state behind them, what is behind them with bytes 0. -/
def wordsQ (q : Nat) (m : List UInt8) : List Nat := (List.range q).map (fun i => wordN ((m.drop (8 * i)).take 8))
def atN (q : Nat) (m : List UInt8) : Nat × Nat := alongN startN (wordsQ q m)
def restL (q : Nat) (m : List UInt8) : List UInt8 := m.drop (8 * q) ++ List.replicate (8 - (m.length - 8 * q)) 0
/-- The sum of bytes. -/
def sumL (m : List UInt8) : Nat × Nat := closedN (atN ((m.length + 7) / 8) m) m.length
theorem wordsQ_app (q : Nat) (m l : List UInt8) (h : 8 * q ≤ m.length) : wordsQ q (m ++ l) = wordsQ q m := by
  unfold wordsQ
  apply List.map_congr_left
  intro i hi
  have hi := List.mem_range.1 hi
  rw [List.drop_append_of_le_length (by omega), List.take_append_of_le_length (by rw [List.length_drop]; omega)]
theorem wordsQ_succ (q : Nat) (m : List UInt8) : wordsQ (q + 1) m = wordsQ q m ++ [wordN ((m.drop (8 * q)).take 8)] := by
  unfold wordsQ; rw [List.range_succ, List.map_append]; rfl
theorem atN_app (q : Nat) (m l : List UInt8) (h : 8 * q ≤ m.length) : atN q (m ++ l) = atN q m := by unfold atN; rw [wordsQ_app q m l h]
theorem atN_succ (q : Nat) (m : List UInt8) : atN (q + 1) m = roundN (atN q m) (wordN ((m.drop (8 * q)).take 8)) := by
  unfold atN alongN; rw [wordsQ_succ, List.foldl_append]; rfl
theorem atN_two (q : Nat) (m : List UInt8) : Two (atN q m) := alongN_two _ _ startN_two
theorem restL_len (q : Nat) (m : List UInt8) (h : m.length ≤ 8 * q + 8) : (restL q m).length = 8 := by
  unfold restL; rw [List.length_append, List.length_drop, List.length_replicate]; omega
theorem wordN_rest (q : Nat) (m : List UInt8) (h : m.length ≤ 8 * q + 8) : wordN (restL q m) = wordN ((m.drop (8 * q)).take 8) := by
  unfold restL; rw [wordN_zeros, List.take_of_length_le (by rw [List.length_drop]; omega)]
theorem wordN_small (l : List UInt8) (h : l.length ≤ 8) : wordN l < 18446744073709551616 := by
  have h1 := wordN_lt l
  have h2 : 256 ^ l.length ≤ 256 ^ 8 := Nat.pow_le_pow_right (by decide) h
  omega
theorem eight (r : List UInt8) (h : r.length = 8) : ∃ x0 x1 x2 x3 x4 x5 x6 x7, r = [x0, x1, x2, x3, x4, x5, x6, x7] := by
  match r, h with
  | [x0, x1, x2, x3, x4, x5, x6, x7], _ => exact ⟨_, _, _, _, _, _, _, _, rfl⟩

def hashRow (p : Nat × Nat) (r : List UInt8) (n : Nat) : Array Value := ((.int .u64 (p.1 : Nat)) :: (.int .u64 (p.2 : Nat)) :: (r.map byteV ++ [.int .i64 (n : Nat)])).toArray
/-- A Hash that has met m, in block b. -/
def IsH (w : World) (b : Nat) (m : List UInt8) : Prop :=
  ∃ p, Two p ∧ (m ≠ [] → p = atN (m.length / 8) m) ∧ w.heap[b]? = some (.cells (hashRow p (restL (m.length / 8) m) m.length) 155 (0, 0))

theorem hash_n {w : World} {b n : Nat} {p : Nat × Nat} {r : List UInt8} {t : TypeId} (hr : r.length = 8) (h : w.heap[b]? = some (.cells (hashRow p r n) t (0, 0))) : w.cell? ⟨b, 10, none⟩ = some (.int .i64 (n : Nat)) := by
  rw [cell_of_row _ _ _ _ _ _ h]
  obtain ⟨x0, x1, x2, x3, x4, x5, x6, x7, rfl⟩ := eight r hr
  rfl
theorem hash_p {w : World} {b n : Nat} {p : Nat × Nat} {r : List UInt8} {t : TypeId} (h : w.heap[b]? = some (.cells (hashRow p r n) t (0, 0))) : w.cell? ⟨b, 0, none⟩ = some (.int .u64 (p.1 : Nat)) ∧ w.cell? ⟨b, 1, none⟩ = some (.int .u64 (p.2 : Nat)) := by
  constructor
  · rw [cell_of_row _ _ _ _ _ _ h]; rfl
  · rw [cell_of_row _ _ _ _ _ _ h]; rfl

set_option maxHeartbeats 1000000 in
theorem len_nil (w : World) : Calls Try.prog 129 #[.pointer none] w fun e w' => e = .returned (.int .i64 0) ∧ w' = w := by
  go_enter Try.func129, Try.ntmps129
  go_wp2_with fail
  refine bodyPost_ret (results_tmp rfl _ _ _) rfl ⟨rfl, rfl⟩
set_option maxHeartbeats 1000000 in
theorem len_n (b n : Nat) (w : World) (c10 : w.cell? ⟨b, 10, none⟩ = some (.int .i64 (n : Nat))) : Calls Try.prog 129 #[.pointer (some ⟨b, 0, none⟩)] w fun e w' => e = .returned (.int .i64 (n : Nat)) ∧ w' = w := by
  go_enter Try.func129, Try.ntmps129
  go_wp2_with fail
  refine bodyPost_ret (results_tmp rfl _ _ _) rfl ⟨rfl, rfl⟩

set_option maxHeartbeats 1000000 in
theorem whole_start (A : Option Addr) (w : World) (hL : ∀ W, Below w.heap.size w W → Calls Try.prog 129 #[.pointer A] W fun e w' => e = .returned (.int .i64 0) ∧ w' = W) :
    Calls Try.prog 125 #[.pointer A] w fun e w' => e = .returned (stV startN) ∧ Below w.heap.size w w' := by
  have hS := fun W => mixStart_any W
  generalize startN = q at hS ⊢
  have hB : Below w.heap.size w (w.alloc (.cells #[.int .u64 0, .int .u64 0] 152)) := (Below.refl _ w).alloc (Nat.le_refl _) _
  have r1 := World.alloc_heap_new w (Obj.cells #[.int .u64 0, .int .u64 0] 152)
  go_enter Try.func125, Try.ntmps125
  go_wp2_with fail
  refine (hL _ hB).mono ?_
  rintro e w2 ⟨rfl, rfl⟩
  go_wp2_with fail
  refine (hS _).mono ?_
  rintro e w3 ⟨rfl, hB3⟩
  have hBx := hB.trans (hB3.mono hB.size)
  have s1 := (hB3.block w.heap.size (Array.getElem?_eq_some_iff.1 r1).1).trans r1
  clear hB hB3 r1
  have d0 : w3.cell? ⟨w.heap.size, 0, none⟩ = some (.int .u64 0) := cell_of_row _ _ _ _ _ _ s1
  have d1 : w3.cell? ⟨w.heap.size, 1, none⟩ = some (.int .u64 0) := cell_of_row _ _ _ _ _ _ s1
  have z0 : w3.frozen? ⟨w.heap.size, 0, none⟩ = false := frozen_of_row _ _ _ _ _ s1
  have z1 : w3.frozen? ⟨w.heap.size, 1, none⟩ = false := frozen_of_row _ _ _ _ _ s1
  have HX := hide (set_two w w3 w.heap.size _ _ (.int .u64 (q.1 : Nat)) (.int .u64 (q.2 : Nat)) _ s1 (Nat.le_refl _) hBx)
  clear s1 hBx
  rw [show stV q = .agg #[.int .u64 (q.1 : Nat), .int .u64 (q.2 : Nat)] from rfl]
  go_wp2_with fail
  obtain ⟨y0, y1, hBf⟩ := HX.out
  refine bodyPost_ret (v := .agg #[.int .u64 (q.1 : Nat), .int .u64 (q.2 : Nat)]) (by simp [results, Try.results125, go_sem, y0, y1]) rfl ⟨rfl, hBf⟩
set_option maxHeartbeats 1000000 in
theorem whole_more (b n : Nat) (p : Nat × Nat) (w : World) (hn : 0 < n) (c0 : w.cell? ⟨b, 0, none⟩ = some (.int .u64 (p.1 : Nat))) (c1 : w.cell? ⟨b, 1, none⟩ = some (.int .u64 (p.2 : Nat))) (c10 : w.cell? ⟨b, 10, none⟩ = some (.int .i64 (n : Nat))) (hb : b < w.heap.size) :
    Calls Try.prog 125 #[.pointer (some ⟨b, 0, none⟩)] w fun e w' => e = .returned (stV p) ∧ Below w.heap.size w w' := by
  have hB : Below w.heap.size w (w.alloc (.cells #[.int .u64 0, .int .u64 0] 152)) := (Below.refl _ w).alloc (Nat.le_refl _) _
  have r1 := World.alloc_heap_new w (Obj.cells #[.int .u64 0, .int .u64 0] 152)
  have e0 := (hB.cell (p := ⟨b, 0, none⟩) hb).trans c0
  have e1 := (hB.cell (p := ⟨b, 1, none⟩) hb).trans c1
  have e2 := (hB.cell (p := ⟨b, 10, none⟩) hb).trans c10
  have hL := len_n b n _ e2
  have E0 : ((n : Int) == 0) = false := by rw [beq_eq_false_iff_ne]; omega
  clear hn c0 c1 c10
  go_enter Try.func125, Try.ntmps125
  go_wp2_with fail
  generalize (w.alloc (.cells #[.int .u64 0, .int .u64 0] 152)) = w3 at r1 hB e0 e1 e2 hL ⊢
  have d0 : w3.cell? ⟨w.heap.size, 0, none⟩ = some (.int .u64 0) := cell_of_row _ _ _ _ _ _ r1
  have d1 : w3.cell? ⟨w.heap.size, 1, none⟩ = some (.int .u64 0) := cell_of_row _ _ _ _ _ _ r1
  have z0 : w3.frozen? ⟨w.heap.size, 0, none⟩ = false := frozen_of_row _ _ _ _ _ r1
  have z1 : w3.frozen? ⟨w.heap.size, 1, none⟩ = false := frozen_of_row _ _ _ _ _ r1
  have HX := hide (set_two w w3 w.heap.size _ _ (.int .u64 (p.1 : Nat)) (.int .u64 (p.2 : Nat)) _ r1 (Nat.le_refl _) hB)
  clear r1 hB
  refine hL.mono ?_
  rintro e w2 ⟨rfl, rfl⟩
  go_wp2_with fail
  obtain ⟨y0, y1, hBf⟩ := HX.out
  refine bodyPost_ret (v := .agg #[.int .u64 (p.1 : Nat), .int .u64 (p.2 : Nat)]) (by simp [results, Try.results125, go_sem, y0, y1]) rfl ⟨rfl, hBf⟩
theorem isH_two {w : World} {b : Nat} {m : List UInt8} (h : IsH w b m) : b < w.heap.size := by
  obtain ⟨p, _, _, h⟩ := h
  exact (Array.getElem?_eq_some_iff.1 h).1
theorem rest_ok (m : List UInt8) : (restL (m.length / 8) m).length = 8 := restL_len _ _ (by omega)
theorem whole_any (b : Nat) (m : List UInt8) (w : World) (h : IsH w b m) :
    Calls Try.prog 125 #[.pointer (some ⟨b, 0, none⟩)] w fun e w' => e = .returned (stV (atN (m.length / 8) m)) ∧ Below w.heap.size w w' := by
  have hb := isH_two h
  obtain ⟨p, _, hq, hr⟩ := h
  have c10 := hash_n (rest_ok m) hr
  obtain ⟨c0, c1⟩ := hash_p hr
  by_cases hm : m = []
  · subst hm
    refine whole_start _ w fun W hW => ?_
    have := len_n b 0 W ((hW.cell (p := ⟨b, 10, none⟩) hb).trans c10)
    exact this
  · rw [← hq hm]
    exact whole_more b m.length p w (by cases m <;> simp_all) c0 c1 c10 hb
end Go.Proofs.Ytobgbheodlpclaa
