/-
  Texts that belong together: MixWord, MixHash.
-/
import Derived.Test.YtobgbheodlpclaaAutoMixOne
/-
  mix.word: eight bytes as a word.
-/
namespace Go.Proofs.Ytobgbheodlpclaa
open Go.RowKit
set_option maxRecDepth 100000

/-- A word's number: the lowest byte first. -/
def wordN : List UInt8 → Nat
  | [] => 0
  | x :: l => x.toNat + 256 * wordN l
theorem wordN_lt : ∀ l : List UInt8, wordN l < 256 ^ l.length
  | [] => by decide
  | x :: l => by
    have h := wordN_lt l
    have hx := x.toNat_lt
    show x.toNat + 256 * wordN l < 256 ^ (l.length + 1)
    rw [Nat.pow_succ]
    omega
theorem wordN_zeros (l : List UInt8) (n : Nat) : wordN (l ++ List.replicate n 0) = wordN l := by
  induction l with
  | nil =>
    induction n with
    | zero => rfl
    | succ n ih => rw [List.replicate_succ]; show 0 + 256 * wordN ([] ++ List.replicate n 0) = 0; rw [ih]; rfl
  | cons x l ih => show x.toNat + 256 * wordN (l ++ List.replicate n 0) = x.toNat + 256 * wordN l; rw [ih]
theorem wordN_inj : ∀ l m : List UInt8, l.length = m.length → wordN l = wordN m → l = m
  | [], [], _, _ => rfl
  | x :: l, y :: m, h, e => by
    have hx := x.toNat_lt
    have hy := y.toNat_lt
    have e' : x.toNat + 256 * wordN l = y.toNat + 256 * wordN m := e
    have h1 : x = y := UInt8.toNat_inj.1 (by omega)
    rw [h1, wordN_inj l m (by simpa using h) (by omega)]
theorem word_or (j acc x : Nat) (ha : acc < 256 ^ j) (hx : x < 256) (hj : j < 8) : bits .or .u64 (acc : Int) ((x : Int) * ((256 ^ j : Nat) : Int)) = ((acc + x * 256 ^ j : Nat) : Int) := by
  have hp : 256 ^ j = 2 ^ (8 * j) := by rw [Nat.pow_mul]
  have h7 : 256 ^ j ≤ 256 ^ 7 := Nat.pow_le_pow_right (by decide) (by omega)
  have hm : x * 256 ^ j ≤ 255 * 256 ^ j := Nat.mul_le_mul_right _ (by omega)
  have e : (x : Int) * ((256 ^ j : Nat) : Int) = ((x * 256 ^ j : Nat) : Int) := by simp
  rw [e, u64_or_nat _ _ (by omega) (by omega), Nat.or_comm, hp, ← Nat.shiftLeft_eq, ← Nat.shiftLeft_add_eq_or_of_lt (by rw [← hp]; exact ha), Nat.add_comm]

set_option maxHeartbeats 4000000 in
theorem word_any (x0 x1 x2 x3 x4 x5 x6 x7 : UInt8) (w : World) :
    Calls Try.prog 128 #[.agg #[.int .u8 (x0.toNat : Nat), .int .u8 (x1.toNat : Nat), .int .u8 (x2.toNat : Nat), .int .u8 (x3.toNat : Nat), .int .u8 (x4.toNat : Nat), .int .u8 (x5.toNat : Nat), .int .u8 (x6.toNat : Nat), .int .u8 (x7.toNat : Nat)]] w fun e w' =>
      e = .returned (.int .u64 (wordN [x0, x1, x2, x3, x4, x5, x6, x7] : Nat)) ∧ Below w.heap.size w w' := by
  have hB0 : Below w.heap.size w (w.alloc (.cells #[.int .u8 (x0.toNat : Nat), .int .u8 (x1.toNat : Nat), .int .u8 (x2.toNat : Nat), .int .u8 (x3.toNat : Nat), .int .u8 (x4.toNat : Nat), .int .u8 (x5.toNat : Nat), .int .u8 (x6.toNat : Nat), .int .u8 (x7.toNat : Nat)] 153)) := (Below.refl _ w).alloc (Nat.le_refl _) _
  have hr0 := World.alloc_heap_new w (Obj.cells #[.int .u8 (x0.toNat : Nat), .int .u8 (x1.toNat : Nat), .int .u8 (x2.toNat : Nat), .int .u8 (x3.toNat : Nat), .int .u8 (x4.toNat : Nat), .int .u8 (x5.toNat : Nat), .int .u8 (x6.toNat : Nat), .int .u8 (x7.toNat : Nat)] 153)
  go_enter Try.func128, Try.ntmps128
  go_wp2_with fail
  generalize (w.alloc (.cells #[.int .u8 (x0.toNat : Nat), .int .u8 (x1.toNat : Nat), .int .u8 (x2.toNat : Nat), .int .u8 (x3.toNat : Nat), .int .u8 (x4.toNat : Nat), .int .u8 (x5.toNat : Nat), .int .u8 (x6.toNat : Nat), .int .u8 (x7.toNat : Nat)] 153)) = w2 at hB0 hr0 ⊢
  go_loopw [3, 4, 5] (fun s u i wr => ∃ k : Nat, k ≤ 8 ∧ i = .int .i64 k ∧ s = .int .u64 (wordN ([x0, x1, x2, x3, x4, x5, x6, x7].take k) : Nat) ∧ wr.heap[w.heap.size]? = some (.cells #[.int .u8 (x0.toNat : Nat), .int .u8 (x1.toNat : Nat), .int .u8 (x2.toNat : Nat), .int .u8 (x3.toNat : Nat), .int .u8 (x4.toNat : Nat), .int .u8 (x5.toNat : Nat), .int .u8 (x6.toNat : Nat), .int .u8 (x7.toNat : Nat)] 153 (0, 0)) ∧ Below w.heap.size w wr) (fun _ _ i _ => 8 - (intOf i).toNat)
  case atStart => exact ⟨0, by decide, rfl, rfl, hr0, hB0⟩
  case round =>
    clear hr0 hB0
    obtain ⟨k, hk, rfl, rfl, r0, hB⟩ := hrel
    by_cases hlt : k < 8
    · clear hk
      have hk8 : k = 0 ∨ k = 1 ∨ k = 2 ∨ k = 3 ∨ k = 4 ∨ k = 5 ∨ k = 6 ∨ k = 7 := by omega
      clear hlt
      rcases hk8 with rfl | rfl | rfl | rfl | rfl | rfl | rfl | rfl
      · have hc : wr.cell? ⟨w.heap.size, 0, none⟩ = some (.int .u8 (x0.toNat : Nat)) := cell_of_row _ _ _ _ _ _ r0
        have HV := word_or 0 (wordN ([x0, x1, x2, x3, x4, x5, x6, x7].take 0)) x0.toNat (by have := wordN_lt ([x0, x1, x2, x3, x4, x5, x6, x7].take 0); exact this) x0.toNat_lt (by decide)
        have HV2 : bits .or .u64 ((wordN ([x0, x1, x2, x3, x4, x5, x6, x7].take 0) : Nat) : Int) (x0.toNat : Int) = ((wordN ([x0, x1, x2, x3, x4, x5, x6, x7].take 0) + x0.toNat * 1 : Nat) : Int) := by simpa using HV
        have HN := hide (show wordN ([x0, x1, x2, x3, x4, x5, x6, x7].take 0) + x0.toNat * 1 = wordN ([x0, x1, x2, x3, x4, x5, x6, x7].take 1) by simp [wordN]; try omega)
        have hx := x0.toNat_lt
        clear HV
        generalize wordN ([x0, x1, x2, x3, x4, x5, x6, x7].take 0) = acc at HV2 HN ⊢
        go_wp2_with fail
        go_roundw
        case rel => exact ⟨1, by decide, rfl, by rw [← HN.out]; congr 1; simp, r0, hB⟩
        case measure => simp [intOf]
      · have hc : wr.cell? ⟨w.heap.size, 1, none⟩ = some (.int .u8 (x1.toNat : Nat)) := cell_of_row _ _ _ _ _ _ r0
        have HV := word_or 1 (wordN ([x0, x1, x2, x3, x4, x5, x6, x7].take 1)) x1.toNat (by have := wordN_lt ([x0, x1, x2, x3, x4, x5, x6, x7].take 1); exact this) x1.toNat_lt (by decide)
        have HV2 : bits .or .u64 ((wordN ([x0, x1, x2, x3, x4, x5, x6, x7].take 1) : Nat) : Int) ((x1.toNat : Int) * 256) = ((wordN ([x0, x1, x2, x3, x4, x5, x6, x7].take 1) + x1.toNat * 256 : Nat) : Int) := HV
        have HN := hide (show wordN ([x0, x1, x2, x3, x4, x5, x6, x7].take 1) + x1.toNat * 256 = wordN ([x0, x1, x2, x3, x4, x5, x6, x7].take 2) by simp [wordN]; try omega)
        have hx := x1.toNat_lt
        clear HV
        generalize wordN ([x0, x1, x2, x3, x4, x5, x6, x7].take 1) = acc at HV2 HN ⊢
        go_wp2_with fail
        go_roundw
        case rel => exact ⟨2, by decide, rfl, by rw [← HN.out]; congr 1, r0, hB⟩
        case measure => simp [intOf]
      · have hc : wr.cell? ⟨w.heap.size, 2, none⟩ = some (.int .u8 (x2.toNat : Nat)) := cell_of_row _ _ _ _ _ _ r0
        have HV := word_or 2 (wordN ([x0, x1, x2, x3, x4, x5, x6, x7].take 2)) x2.toNat (by have := wordN_lt ([x0, x1, x2, x3, x4, x5, x6, x7].take 2); exact this) x2.toNat_lt (by decide)
        have HV2 : bits .or .u64 ((wordN ([x0, x1, x2, x3, x4, x5, x6, x7].take 2) : Nat) : Int) ((x2.toNat : Int) * 65536) = ((wordN ([x0, x1, x2, x3, x4, x5, x6, x7].take 2) + x2.toNat * 65536 : Nat) : Int) := HV
        have HN := hide (show wordN ([x0, x1, x2, x3, x4, x5, x6, x7].take 2) + x2.toNat * 65536 = wordN ([x0, x1, x2, x3, x4, x5, x6, x7].take 3) by simp [wordN]; try omega)
        have hx := x2.toNat_lt
        clear HV
        generalize wordN ([x0, x1, x2, x3, x4, x5, x6, x7].take 2) = acc at HV2 HN ⊢
        go_wp2_with fail
        go_roundw
        case rel => exact ⟨3, by decide, rfl, by rw [← HN.out]; congr 1, r0, hB⟩
        case measure => simp [intOf]
      · have hc : wr.cell? ⟨w.heap.size, 3, none⟩ = some (.int .u8 (x3.toNat : Nat)) := cell_of_row _ _ _ _ _ _ r0
        have HV := word_or 3 (wordN ([x0, x1, x2, x3, x4, x5, x6, x7].take 3)) x3.toNat (by have := wordN_lt ([x0, x1, x2, x3, x4, x5, x6, x7].take 3); exact this) x3.toNat_lt (by decide)
        have HV2 : bits .or .u64 ((wordN ([x0, x1, x2, x3, x4, x5, x6, x7].take 3) : Nat) : Int) ((x3.toNat : Int) * 16777216) = ((wordN ([x0, x1, x2, x3, x4, x5, x6, x7].take 3) + x3.toNat * 16777216 : Nat) : Int) := HV
        have HN := hide (show wordN ([x0, x1, x2, x3, x4, x5, x6, x7].take 3) + x3.toNat * 16777216 = wordN ([x0, x1, x2, x3, x4, x5, x6, x7].take 4) by simp [wordN]; try omega)
        have hx := x3.toNat_lt
        clear HV
        generalize wordN ([x0, x1, x2, x3, x4, x5, x6, x7].take 3) = acc at HV2 HN ⊢
        go_wp2_with fail
        go_roundw
        case rel => exact ⟨4, by decide, rfl, by rw [← HN.out]; congr 1, r0, hB⟩
        case measure => simp [intOf]
      · have hc : wr.cell? ⟨w.heap.size, 4, none⟩ = some (.int .u8 (x4.toNat : Nat)) := cell_of_row _ _ _ _ _ _ r0
        have HV := word_or 4 (wordN ([x0, x1, x2, x3, x4, x5, x6, x7].take 4)) x4.toNat (by have := wordN_lt ([x0, x1, x2, x3, x4, x5, x6, x7].take 4); exact this) x4.toNat_lt (by decide)
        have HV2 : bits .or .u64 ((wordN ([x0, x1, x2, x3, x4, x5, x6, x7].take 4) : Nat) : Int) ((x4.toNat : Int) * 4294967296) = ((wordN ([x0, x1, x2, x3, x4, x5, x6, x7].take 4) + x4.toNat * 4294967296 : Nat) : Int) := HV
        have HN := hide (show wordN ([x0, x1, x2, x3, x4, x5, x6, x7].take 4) + x4.toNat * 4294967296 = wordN ([x0, x1, x2, x3, x4, x5, x6, x7].take 5) by simp [wordN]; try omega)
        have hx := x4.toNat_lt
        clear HV
        generalize wordN ([x0, x1, x2, x3, x4, x5, x6, x7].take 4) = acc at HV2 HN ⊢
        go_wp2_with fail
        go_roundw
        case rel => exact ⟨5, by decide, rfl, by rw [← HN.out]; congr 1, r0, hB⟩
        case measure => simp [intOf]
      · have hc : wr.cell? ⟨w.heap.size, 5, none⟩ = some (.int .u8 (x5.toNat : Nat)) := cell_of_row _ _ _ _ _ _ r0
        have HV := word_or 5 (wordN ([x0, x1, x2, x3, x4, x5, x6, x7].take 5)) x5.toNat (by have := wordN_lt ([x0, x1, x2, x3, x4, x5, x6, x7].take 5); exact this) x5.toNat_lt (by decide)
        have HV2 : bits .or .u64 ((wordN ([x0, x1, x2, x3, x4, x5, x6, x7].take 5) : Nat) : Int) ((x5.toNat : Int) * 1099511627776) = ((wordN ([x0, x1, x2, x3, x4, x5, x6, x7].take 5) + x5.toNat * 1099511627776 : Nat) : Int) := HV
        have HN := hide (show wordN ([x0, x1, x2, x3, x4, x5, x6, x7].take 5) + x5.toNat * 1099511627776 = wordN ([x0, x1, x2, x3, x4, x5, x6, x7].take 6) by simp [wordN]; try omega)
        have hx := x5.toNat_lt
        clear HV
        generalize wordN ([x0, x1, x2, x3, x4, x5, x6, x7].take 5) = acc at HV2 HN ⊢
        go_wp2_with fail
        go_roundw
        case rel => exact ⟨6, by decide, rfl, by rw [← HN.out]; congr 1, r0, hB⟩
        case measure => simp [intOf]
      · have hc : wr.cell? ⟨w.heap.size, 6, none⟩ = some (.int .u8 (x6.toNat : Nat)) := cell_of_row _ _ _ _ _ _ r0
        have HV := word_or 6 (wordN ([x0, x1, x2, x3, x4, x5, x6, x7].take 6)) x6.toNat (by have := wordN_lt ([x0, x1, x2, x3, x4, x5, x6, x7].take 6); exact this) x6.toNat_lt (by decide)
        have HV2 : bits .or .u64 ((wordN ([x0, x1, x2, x3, x4, x5, x6, x7].take 6) : Nat) : Int) ((x6.toNat : Int) * 281474976710656) = ((wordN ([x0, x1, x2, x3, x4, x5, x6, x7].take 6) + x6.toNat * 281474976710656 : Nat) : Int) := HV
        have HN := hide (show wordN ([x0, x1, x2, x3, x4, x5, x6, x7].take 6) + x6.toNat * 281474976710656 = wordN ([x0, x1, x2, x3, x4, x5, x6, x7].take 7) by simp [wordN]; try omega)
        have hx := x6.toNat_lt
        clear HV
        generalize wordN ([x0, x1, x2, x3, x4, x5, x6, x7].take 6) = acc at HV2 HN ⊢
        go_wp2_with fail
        go_roundw
        case rel => exact ⟨7, by decide, rfl, by rw [← HN.out]; congr 1, r0, hB⟩
        case measure => simp [intOf]
      · have hc : wr.cell? ⟨w.heap.size, 7, none⟩ = some (.int .u8 (x7.toNat : Nat)) := cell_of_row _ _ _ _ _ _ r0
        have HV := word_or 7 (wordN ([x0, x1, x2, x3, x4, x5, x6, x7].take 7)) x7.toNat (by have := wordN_lt ([x0, x1, x2, x3, x4, x5, x6, x7].take 7); exact this) x7.toNat_lt (by decide)
        have HV2 : bits .or .u64 ((wordN ([x0, x1, x2, x3, x4, x5, x6, x7].take 7) : Nat) : Int) ((x7.toNat : Int) * 72057594037927936) = ((wordN ([x0, x1, x2, x3, x4, x5, x6, x7].take 7) + x7.toNat * 72057594037927936 : Nat) : Int) := HV
        have HN := hide (show wordN ([x0, x1, x2, x3, x4, x5, x6, x7].take 7) + x7.toNat * 72057594037927936 = wordN ([x0, x1, x2, x3, x4, x5, x6, x7].take 8) by simp [wordN]; try omega)
        have hx := x7.toNat_lt
        clear HV
        generalize wordN ([x0, x1, x2, x3, x4, x5, x6, x7].take 7) = acc at HV2 HN ⊢
        go_wp2_with fail
        go_roundw
        case rel => exact ⟨8, by decide, rfl, by rw [← HN.out]; congr 1, r0, hB⟩
        case measure => simp [intOf]
    · obtain rfl : k = 8 := by omega
      go_wp2_with fail
      refine bodyPost_ret (results_tmp rfl _ _ _) rfl ⟨rfl, hB⟩
end Go.Proofs.Ytobgbheodlpclaa
/-
  mix.Hash: what it keeps; Len, whole.
-/
namespace Go.Proofs.Ytobgbheodlpclaa
open Go.RowKit
set_option maxRecDepth 100000

/-- The first q words of bytes, the state behind them, what is behind them with bytes 0. -/
def wordsQ (q : Nat) (m : List UInt8) : List Nat := (List.range q).map (fun i => wordN ((m.drop (8 * i)).take 8))
def atN (q : Nat) (m : List UInt8) : Nat × Nat := alongN startN (wordsQ q m)
def restL (q : Nat) (m : List UInt8) : List UInt8 := m.drop (8 * q) ++ List.replicate (8 - (m.length - 8 * q)) 0
/-- The sum of bytes. -/
def sumL (m : List UInt8) : Nat × Nat := closedN (atN ((m.length + 7) / 8) m) m.length
theorem wordsQ_app (q : Nat) (m l : List UInt8) (h : 8 * q ≤ m.length) : wordsQ q (m ++ l) = wordsQ q m := by
  unfold wordsQ
  apply List.map_congr_left
  intro i hi
  have hi := List.mem_range.1 hi
  rw [List.drop_append_of_le_length (by omega), List.take_append_of_le_length (by rw [List.length_drop]; omega)]
theorem wordsQ_succ (q : Nat) (m : List UInt8) : wordsQ (q + 1) m = wordsQ q m ++ [wordN ((m.drop (8 * q)).take 8)] := by
  unfold wordsQ; rw [List.range_succ, List.map_append]; rfl
theorem atN_app (q : Nat) (m l : List UInt8) (h : 8 * q ≤ m.length) : atN q (m ++ l) = atN q m := by unfold atN; rw [wordsQ_app q m l h]
theorem atN_succ (q : Nat) (m : List UInt8) : atN (q + 1) m = roundN (atN q m) (wordN ((m.drop (8 * q)).take 8)) := by
  unfold atN alongN; rw [wordsQ_succ, List.foldl_append]; rfl
theorem atN_two (q : Nat) (m : List UInt8) : Two (atN q m) := alongN_two _ _ startN_two
theorem restL_len (q : Nat) (m : List UInt8) (h : m.length ≤ 8 * q + 8) : (restL q m).length = 8 := by
  unfold restL; rw [List.length_append, List.length_drop, List.length_replicate]; omega
theorem wordN_rest (q : Nat) (m : List UInt8) (h : m.length ≤ 8 * q + 8) : wordN (restL q m) = wordN ((m.drop (8 * q)).take 8) := by
  unfold restL; rw [wordN_zeros, List.take_of_length_le (by rw [List.length_drop]; omega)]
theorem wordN_small (l : List UInt8) (h : l.length ≤ 8) : wordN l < 18446744073709551616 := by
  have h1 := wordN_lt l
  have h2 : 256 ^ l.length ≤ 256 ^ 8 := Nat.pow_le_pow_right (by decide) h
  omega
theorem eight (r : List UInt8) (h : r.length = 8) : ∃ x0 x1 x2 x3 x4 x5 x6 x7, r = [x0, x1, x2, x3, x4, x5, x6, x7] := by
  match r, h with
  | [x0, x1, x2, x3, x4, x5, x6, x7], _ => exact ⟨_, _, _, _, _, _, _, _, rfl⟩

def hashRow (p : Nat × Nat) (r : List UInt8) (n : Nat) : Array Value := ((.int .u64 (p.1 : Nat)) :: (.int .u64 (p.2 : Nat)) :: (r.map byteV ++ [.int .i64 (n : Nat)])).toArray
/-- A Hash that has met m, in block b. -/
def IsH (w : World) (b : Nat) (m : List UInt8) : Prop :=
  ∃ p, Two p ∧ (m ≠ [] → p = atN (m.length / 8) m) ∧ w.heap[b]? = some (.cells (hashRow p (restL (m.length / 8) m) m.length) 155 (0, 0))

theorem hash_n {w : World} {b n : Nat} {p : Nat × Nat} {r : List UInt8} {t : TypeId} (hr : r.length = 8) (h : w.heap[b]? = some (.cells (hashRow p r n) t (0, 0))) : w.cell? ⟨b, 10, none⟩ = some (.int .i64 (n : Nat)) := by
  rw [cell_of_row _ _ _ _ _ _ h]
  obtain ⟨x0, x1, x2, x3, x4, x5, x6, x7, rfl⟩ := eight r hr
  rfl
theorem hash_p {w : World} {b n : Nat} {p : Nat × Nat} {r : List UInt8} {t : TypeId} (h : w.heap[b]? = some (.cells (hashRow p r n) t (0, 0))) : w.cell? ⟨b, 0, none⟩ = some (.int .u64 (p.1 : Nat)) ∧ w.cell? ⟨b, 1, none⟩ = some (.int .u64 (p.2 : Nat)) := by
  constructor
  · rw [cell_of_row _ _ _ _ _ _ h]; rfl
  · rw [cell_of_row _ _ _ _ _ _ h]; rfl

set_option maxHeartbeats 1000000 in
theorem len_nil (w : World) : Calls Try.prog 129 #[.pointer none] w fun e w' => e = .returned (.int .i64 0) ∧ w' = w := by
  go_enter Try.func129, Try.ntmps129
  go_wp2_with fail
  refine bodyPost_ret (results_tmp rfl _ _ _) rfl ⟨rfl, rfl⟩
set_option maxHeartbeats 1000000 in
theorem len_n (b n : Nat) (w : World) (c10 : w.cell? ⟨b, 10, none⟩ = some (.int .i64 (n : Nat))) : Calls Try.prog 129 #[.pointer (some ⟨b, 0, none⟩)] w fun e w' => e = .returned (.int .i64 (n : Nat)) ∧ w' = w := by
  go_enter Try.func129, Try.ntmps129
  go_wp2_with fail
  refine bodyPost_ret (results_tmp rfl _ _ _) rfl ⟨rfl, rfl⟩

set_option maxHeartbeats 1000000 in
theorem whole_start (A : Option Addr) (w : World) (hL : ∀ W, Below w.heap.size w W → Calls Try.prog 129 #[.pointer A] W fun e w' => e = .returned (.int .i64 0) ∧ w' = W) :
    Calls Try.prog 125 #[.pointer A] w fun e w' => e = .returned (stV startN) ∧ Below w.heap.size w w' := by
  have hS := fun W => mixStart_any W
  generalize startN = q at hS ⊢
  have hB : Below w.heap.size w (w.alloc (.cells #[.int .u64 0, .int .u64 0] 152)) := (Below.refl _ w).alloc (Nat.le_refl _) _
  have r1 := World.alloc_heap_new w (Obj.cells #[.int .u64 0, .int .u64 0] 152)
  go_enter Try.func125, Try.ntmps125
  go_wp2_with fail
  refine (hL _ hB).mono ?_
  rintro e w2 ⟨rfl, rfl⟩
  go_wp2_with fail
  refine (hS _).mono ?_
  rintro e w3 ⟨rfl, hB3⟩
  have hBx := hB.trans (hB3.mono hB.size)
  have s1 := (hB3.block w.heap.size (Array.getElem?_eq_some_iff.1 r1).1).trans r1
  clear hB hB3 r1
  have d0 : w3.cell? ⟨w.heap.size, 0, none⟩ = some (.int .u64 0) := cell_of_row _ _ _ _ _ _ s1
  have d1 : w3.cell? ⟨w.heap.size, 1, none⟩ = some (.int .u64 0) := cell_of_row _ _ _ _ _ _ s1
  have z0 : w3.frozen? ⟨w.heap.size, 0, none⟩ = false := frozen_of_row _ _ _ _ _ s1
  have z1 : w3.frozen? ⟨w.heap.size, 1, none⟩ = false := frozen_of_row _ _ _ _ _ s1
  have HX := hide (set_two w w3 w.heap.size _ _ (.int .u64 (q.1 : Nat)) (.int .u64 (q.2 : Nat)) _ s1 (Nat.le_refl _) hBx)
  clear s1 hBx
  rw [show stV q = .agg #[.int .u64 (q.1 : Nat), .int .u64 (q.2 : Nat)] from rfl]
  go_wp2_with fail
  obtain ⟨y0, y1, hBf⟩ := HX.out
  refine bodyPost_ret (v := .agg #[.int .u64 (q.1 : Nat), .int .u64 (q.2 : Nat)]) (by simp [results, Try.results125, go_sem, y0, y1]) rfl ⟨rfl, hBf⟩
set_option maxHeartbeats 1000000 in
theorem whole_more (b n : Nat) (p : Nat × Nat) (w : World) (hn : 0 < n) (c0 : w.cell? ⟨b, 0, none⟩ = some (.int .u64 (p.1 : Nat))) (c1 : w.cell? ⟨b, 1, none⟩ = some (.int .u64 (p.2 : Nat))) (c10 : w.cell? ⟨b, 10, none⟩ = some (.int .i64 (n : Nat))) (hb : b < w.heap.size) :
    Calls Try.prog 125 #[.pointer (some ⟨b, 0, none⟩)] w fun e w' => e = .returned (stV p) ∧ Below w.heap.size w w' := by
  have hB : Below w.heap.size w (w.alloc (.cells #[.int .u64 0, .int .u64 0] 152)) := (Below.refl _ w).alloc (Nat.le_refl _) _
  have r1 := World.alloc_heap_new w (Obj.cells #[.int .u64 0, .int .u64 0] 152)
  have e0 := (hB.cell (p := ⟨b, 0, none⟩) hb).trans c0
  have e1 := (hB.cell (p := ⟨b, 1, none⟩) hb).trans c1
  have e2 := (hB.cell (p := ⟨b, 10, none⟩) hb).trans c10
  have hL := len_n b n _ e2
  have E0 : ((n : Int) == 0) = false := by rw [beq_eq_false_iff_ne]; omega
  clear hn c0 c1 c10
  go_enter Try.func125, Try.ntmps125
  go_wp2_with fail
  generalize (w.alloc (.cells #[.int .u64 0, .int .u64 0] 152)) = w3 at r1 hB e0 e1 e2 hL ⊢
  have d0 : w3.cell? ⟨w.heap.size, 0, none⟩ = some (.int .u64 0) := cell_of_row _ _ _ _ _ _ r1
  have d1 : w3.cell? ⟨w.heap.size, 1, none⟩ = some (.int .u64 0) := cell_of_row _ _ _ _ _ _ r1
  have z0 : w3.frozen? ⟨w.heap.size, 0, none⟩ = false := frozen_of_row _ _ _ _ _ r1
  have z1 : w3.frozen? ⟨w.heap.size, 1, none⟩ = false := frozen_of_row _ _ _ _ _ r1
  have HX := hide (set_two w w3 w.heap.size _ _ (.int .u64 (p.1 : Nat)) (.int .u64 (p.2 : Nat)) _ r1 (Nat.le_refl _) hB)
  clear r1 hB
  refine hL.mono ?_
  rintro e w2 ⟨rfl, rfl⟩
  go_wp2_with fail
  obtain ⟨y0, y1, hBf⟩ := HX.out
  refine bodyPost_ret (v := .agg #[.int .u64 (p.1 : Nat), .int .u64 (p.2 : Nat)]) (by simp [results, Try.results125, go_sem, y0, y1]) rfl ⟨rfl, hBf⟩
theorem isH_two {w : World} {b : Nat} {m : List UInt8} (h : IsH w b m) : b < w.heap.size := by
  obtain ⟨p, _, _, h⟩ := h
  exact (Array.getElem?_eq_some_iff.1 h).1
theorem rest_ok (m : List UInt8) : (restL (m.length / 8) m).length = 8 := restL_len _ _ (by omega)
theorem whole_any (b : Nat) (m : List UInt8) (w : World) (h : IsH w b m) :
    Calls Try.prog 125 #[.pointer (some ⟨b, 0, none⟩)] w fun e w' => e = .returned (stV (atN (m.length / 8) m)) ∧ Below w.heap.size w w' := by
  have hb := isH_two h
  obtain ⟨p, _, hq, hr⟩ := h
  have c10 := hash_n (rest_ok m) hr
  obtain ⟨c0, c1⟩ := hash_p hr
  by_cases hm : m = []
  · subst hm
    refine whole_start _ w fun W hW => ?_
    have := len_n b 0 W ((hW.cell (p := ⟨b, 10, none⟩) hb).trans c10)
    exact this
  · rw [← hq hm]
    exact whole_more b m.length p w (by cases m <;> simp_all) c0 c1 c10 hb
end Go.Proofs.Ytobgbheodlpclaa
