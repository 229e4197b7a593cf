/-
  mix.Words, the reference's Bytes.
-/
import Derived.Test.YtffhkdbdcpobbaaMixRefOf
import Derived.Test.YtffhkdbdcpobbaaMixText
namespace Go.Proofs.Ytffhkdbdcpobbaa
open Go.RowKit
set_option maxRecDepth 100000

/-- A word's bytes, the lowest first; those of words. -/
def leF : Nat → Nat → List UInt8
  | 0, _ => []
  | k + 1, w => leF k w ++ [UInt8.ofNat (w / 256 ^ k % 256)]
theorem leF_len : ∀ k w, (leF k w).length = k
  | 0, _ => rfl
  | k + 1, w => by simp [leF, leF_len k w]
theorem wordN_app (l : List UInt8) (x : UInt8) : wordN (l ++ [x]) = wordN l + 256 ^ l.length * x.toNat := by
  induction l with
  | nil => simp [wordN]
  | cons y l ih => show y.toNat + 256 * wordN (l ++ [x]) = y.toNat + 256 * wordN l + 256 ^ (l.length + 1) * x.toNat; rw [ih, Nat.mul_add, Nat.pow_succ, Nat.mul_comm (256 ^ l.length) 256, Nat.mul_assoc, Nat.add_assoc]
theorem wordN_le : ∀ k w, wordN (leF k w) = w % 256 ^ k
  | 0, w => by simp [leF, wordN, Nat.mod_one]
  | k + 1, w => by
    show wordN (leF k w ++ [UInt8.ofNat (w / 256 ^ k % 256)]) = _
    rw [wordN_app, wordN_le k w, leF_len, UInt8.toNat_ofNat', Nat.mod_eq_of_lt (a := w / 256 ^ k % 256) (by omega), Nat.pow_succ, Nat.mod_mul]
def bytesW (l : List Nat) : List UInt8 := l.flatMap (leF 8)
theorem bytesW_len (l : List Nat) : (bytesW l).length = 8 * l.length := by
  unfold bytesW
  induction l with
  | nil => rfl
  | cons x l ih => rw [List.flatMap_cons, List.length_append, ih, leF_len, List.length_cons]; omega
theorem bytesW_more (l : List Nat) (k : Nat) (h : k < l.length) : bytesW (l.take (k + 1)) = bytesW (l.take k) ++ leF 8 l[k] := by
  unfold bytesW
  rw [← List.take_append_getElem h, List.flatMap_append]; simp
theorem bytesW_drop (l : List Nat) : ∀ i, (bytesW l).drop (8 * i) = bytesW (l.drop i) := by
  induction l with
  | nil => intro i; simp [bytesW]
  | cons x l ih =>
    intro i
    cases i with
    | zero => rfl
    | succ i =>
      show (leF 8 x ++ bytesW l).drop (8 * (i + 1)) = bytesW (l.drop i)
      rw [List.drop_append, List.drop_of_length_le (by rw [leF_len]; omega), List.nil_append, leF_len, show 8 * (i + 1) - 8 = 8 * i by omega]
      exact ih i
theorem wordsQ_bytes (l : List Nat) (h : ∀ x ∈ l, x < 18446744073709551616) : wordsQ l.length (bytesW l) = l := by
  apply List.ext_getElem
  · simp [wordsQ]
  · intro i h1 h2
    have e : (wordsQ l.length (bytesW l))[i] = wordN (((bytesW l).drop (8 * i)).take 8) := by simp [wordsQ]
    rw [e, bytesW_drop, List.drop_eq_getElem_cons h2]
    show wordN ((leF 8 l[i] ++ bytesW (l.drop (i + 1))).take 8) = l[i]
    rw [List.take_append_of_le_length (by rw [leF_len]; omega), List.take_of_length_le (by rw [leF_len]; omega), wordN_le]
    exact Nat.mod_eq_of_lt (h _ (List.getElem_mem h2))
/-- The sum of words. -/
def wsumL (l : List Nat) : Nat × Nat := closedN (alongN startN l) (8 * l.length)
theorem sumL_bytes (l : List Nat) (h : ∀ x ∈ l, x < 18446744073709551616) : sumL (bytesW l) = wsumL l := by
  unfold sumL atN wsumL
  rw [bytesW_len, show (8 * l.length + 7) / 8 = l.length by omega, wordsQ_bytes l h]

set_option maxHeartbeats 2000000 in
theorem words_any (A : Option Addr) (l : List Nat) (c : Nat) (w : World) (hR : RdW w w.heap.size A l) (hl : ∀ x ∈ l, x < 18446744073709551616) (hn : l.length ≤ 1000) :
    Calls Try.prog 24 #[.slice A l.length c] w fun e w' => e = .returned (stV (wsumL l)) ∧ Below w.heap.size w w' := by
  have hB : Below w.heap.size w (w.alloc (.cells #[.int .u64 0, .int .u64 0] 43)) := (Below.refl _ w).alloc (Nat.le_refl _) _
  have r1 := World.alloc_heap_new w (Obj.cells #[.int .u64 0, .int .u64 0] 43)
  have HS := hide (fun W => mixStart_any W)
  have HA := hide (fun (W : World) (hW : Below w.heap.size w W) => along_round A c l startN W startN_two hl ((hR.below hW (Nat.le_refl _)).mono hW.size) (by omega))
  have HC := hide (fun (W : World) => (show Calls Try.prog 46 #[stV (alongN startN l), .int .i64 (8 * (l.length : Int))] W fun e w' => e = .returned (stV (wsumL l)) ∧ Below W.heap.size W w' from by
    have h := closed_any (alongN startN l) (8 * l.length) W (alongN_two _ _ startN_two) (by omega)
    exact h))
  rw [show l.foldl roundN startN = alongN startN l from rfl] at HA
  simp only [show ∀ p : Nat × Nat, stV p = .agg #[.int .u64 (p.1 : Nat), .int .u64 (p.2 : Nat)] from fun _ => rfl] at HS HA HC ⊢
  have hni : (l.length : Int) ≤ 1000 := by omega
  generalize wsumL l = q at HC ⊢
  generalize alongN startN l = p at HA HC
  generalize startN = st at HS HA
  clear hR hl
  go_enter Try.func24, Try.ntmps24
  go_wp2_with fail
  refine (HS.out _).mono ?_
  rintro e w2 ⟨rfl, hB2⟩
  have hB3 := hB.trans (hB2.mono hB.size)
  have s1 := (hB2.block w.heap.size (Array.getElem?_eq_some_iff.1 r1).1).trans r1
  clear hB hB2 r1
  go_wp2_with fail
  refine (HA.out _ hB3).mono ?_
  rintro e w3 ⟨rfl, hB4⟩
  have hB5 := hB3.trans (hB4.mono hB3.size)
  have s2 := (hB4.block w.heap.size (Array.getElem?_eq_some_iff.1 s1).1).trans s1
  clear hB3 hB4 s1
  go_wp2_with fail
  refine (HC.out _).mono ?_
  rintro e w6 ⟨rfl, hB6⟩
  have hB7 := hB5.trans (hB6.mono hB5.size)
  have s3 := (hB6.block w.heap.size (Array.getElem?_eq_some_iff.1 s2).1).trans s2
  clear hB5 hB6 s2
  have d0 : w6.cell? ⟨w.heap.size, 0, none⟩ = some (.int .u64 0) := cell_of_row _ _ _ _ _ _ s3
  have d1 : w6.cell? ⟨w.heap.size, 1, none⟩ = some (.int .u64 0) := cell_of_row _ _ _ _ _ _ s3
  have z0 : w6.frozen? ⟨w.heap.size, 0, none⟩ = false := frozen_of_row _ _ _ _ _ s3
  have z1 : w6.frozen? ⟨w.heap.size, 1, none⟩ = false := frozen_of_row _ _ _ _ _ s3
  have HX := hide (set_two w w6 w.heap.size _ _ (.int .u64 (q.1 : Nat)) (.int .u64 (q.2 : Nat)) _ s3 (Nat.le_refl _) hB7)
  clear s3 hB7
  go_wp2_with fail
  obtain ⟨y0, y1, hBf⟩ := HX.out
  refine bodyPost_ret (v := .agg #[.int .u64 (q.1 : Nat), .int .u64 (q.2 : Nat)]) (by simp [results, Try.results24, go_sem, y0, y1]) rfl ⟨rfl, hBf⟩

theorem ofL_app (a b : List UInt8) : ofL (a ++ b) = ofL a ++ ofL b := by
  apply toL_inj
  simp [toL, ofL]

set_option maxHeartbeats 4000000 in
theorem refBytes_any (A : Option Addr) (l : List Nat) (c : Nat) (w : World) (hR : RdW w w.heap.size A l) (hl : ∀ x ∈ l, x < 18446744073709551616) (hn : l.length ≤ 1000) :
    Calls Try.prog 25 #[.slice A l.length c] w fun e w' => e = .returned (.string (ofL (bytesW l))) ∧ Below w.heap.size w w' := by
  have hni : (l.length : Int) ≤ 1000 := by omega
  go_enter Try.func25, Try.ntmps25
  go_wp2_with fail
  go_loopw [3, 4, 5, 6] (fun o i x y wr => ∃ k : Nat, k ≤ l.length ∧ i = .int .i64 k ∧ o = .string (ofL (bytesW (l.take k))) ∧ Below w.heap.size w wr) (fun _ i _ _ _ => l.length - (intOf i).toNat)
  case atStart => exact ⟨0, Nat.zero_le _, rfl, rfl, Below.refl _ _⟩
  case round =>
    obtain ⟨k, hk, rfl, rfl, hB⟩ := hrel
    by_cases hlt : (k : Int) < l.length
    · have hkl : k < l.length := by omega
      obtain ⟨ad, rfl, _, hc⟩ := (hR.below hB (Nat.le_refl _)) k _ (List.getElem?_eq_getElem hkl)
      have HM := hide (bytesW_more l k hkl)
      have hx := hl _ (List.getElem_mem hkl)
      generalize l[k] = x at hc HM hx
      have HB := hide hB
      clear hB
      go_wp2_with fail
      go_loopw [3, 5, 6] (fun o y j wr2 => ∃ t : Nat, t ≤ 8 ∧ j = .int .i64 t ∧ y = .int .u64 (x / 256 ^ t : Nat) ∧ o = .string (ofL (bytesW (l.take k) ++ leF t x)) ∧ Below w.heap.size w wr2) (fun _ _ j _ => 8 - (intOf j).toNat)
      case atStart => exact ⟨0, by decide, rfl, by simp, by simp [leF], HB.out⟩
      case round =>
        clear hc HB
        obtain ⟨t, ht, rfl, rfl, rfl, hB⟩ := hrel
        by_cases ht8 : t < 8
        · have hq : x / 256 ^ t < 18446744073709551616 := Nat.lt_of_le_of_lt (Nat.div_le_self _ _) hx
          have HD := hide (show x / 256 ^ (t + 1) = x / 256 ^ t / 256 by rw [Nat.pow_succ, Nat.div_div_eq_div_mul])
          have HL := hide (show leF (t + 1) x = leF t x ++ [UInt8.ofNat (x / 256 ^ t % 256)] from rfl)
          generalize x / 256 ^ t = q at hq HD HL ⊢
          have q0 : (0 : Int) ≤ (q : Int) := by omega
          have q1 : (q : Int) ≤ 18446744073709551615 := by omega
          have hb : ((q : Int) % 256) = ((UInt8.ofNat (q % 256)).toNat : Nat) := by
            rw [UInt8.toNat_ofNat', Nat.mod_eq_of_lt (a := q % 256) (by omega)]; simp
          have hcv : (convert 22 9 (.slice (some ⟨wr.heap.size, 0, none⟩) 1 1)).run Try.prog (wr.alloc (.cells #[.int .u8 ((q : Int) % 256)] 5)) = .ok (.string (ofL [UInt8.ofNat (q % 256)])) (wr.alloc (.cells #[.int .u8 ((q : Int) % 256)] 5)) := by
            rw [hb]
            exact conv_any (row_any (l := [UInt8.ofNat (q % 256)]) (World.alloc_heap_new wr _)) 1
          have hsz : ¬ 9223372036854775807 < (ofL (bytesW (l.take k) ++ leF t x)).size + (ofL [UInt8.ofNat (q % 256)]).size := by
            rw [ofL_size, ofL_size, List.length_append, bytesW_len, leF_len, List.length_take]
            simp only [List.length_cons, List.length_nil]
            omega
          have hB2 := hB.alloc hB.size (.cells #[.int .u8 ((q : Int) % 256)] 5)
          clear hb hB
          go_wp2_with fail
          go_roundw
          case rel => exact ⟨t + 1, ht8, rfl, by rw [HD.out]; rfl, by rw [HL.out, ← List.append_assoc, ofL_app]; rfl, hB2⟩
          case measure => simp [intOf]; omega
        · obtain rfl : t = 8 := by omega
          rw [← HM.out]
          clear HM hx
          generalize x / 256 ^ 8 = y
          go_wp2_with fail
          go_roundw
          case rel => exact ⟨k + 1, hkl, rfl, rfl, hB⟩
          case measure => simp [intOf]; omega
    · obtain rfl : k = l.length := by omega
      rw [List.take_length]
      go_wp2_with fail
      refine bodyPost_ret (results_tmp rfl _ _ _) rfl ⟨rfl, hB⟩
end Go.Proofs.Ytffhkdbdcpobbaa
