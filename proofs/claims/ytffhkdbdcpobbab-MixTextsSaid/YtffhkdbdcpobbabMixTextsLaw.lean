/-
  MixTexts's law.
-/
import Derived.Test.YtffhkdbdcpobbabMixParse
import Derived.Test.YtffhkdbdcpobbabMixAwake
namespace Go.Proofs.Ytffhkdbdcpobbab
open Go.RowKit
set_option maxRecDepth 100000

theorem dig_hex (d : Nat) (h : d < 16) : dig (hexD d) = some d := by
  have hc : ∀ k : Fin 16, dig (hexD k.val) = some k.val := by decide +kernel
  exact hc ⟨d, h⟩
theorem numF_tail : ∀ (i n s : Nat), numF (tailN i n) s = some (s * 16 ^ i + n % 16 ^ i)
  | 0, n, s => by simp [tailN, numF, Nat.mod_one]
  | i + 1, n, s => by
    show (match dig (hexD (n / 16 ^ i % 16)) with | none => none | some d => numF (tailN i n) (s * 16 + d)) = _
    rw [dig_hex _ (Nat.mod_lt _ (by decide))]
    show numF (tailN i n) (s * 16 + n / 16 ^ i % 16) = _
    rw [numF_tail i n, Nat.pow_succ, Nat.mod_mul, Nat.add_mul, Nat.mul_assoc, Nat.mul_comm 16 (16 ^ i), Nat.mul_comm (n / 16 ^ i % 16)]
    congr 1
    omega
theorem parse_text (p : Nat × Nat) (hp : Two p) : parseL (textL p) = some p := by
  have hlen : (textL p).length = 32 := by unfold textL; rw [List.length_append, tailN_len, tailN_len]
  have e16 : (16 : Nat) ^ 16 = 18446744073709551616 := by decide
  unfold parseL
  rw [if_neg (by omega)]
  have h1 : (textL p).take 16 = tailN 16 p.1 := by unfold textL; rw [List.take_append_of_le_length (by rw [tailN_len]; omega), List.take_of_length_le (by rw [tailN_len]; omega)]
  have h2 : (textL p).drop 16 = tailN 16 p.2 := by unfold textL; rw [List.drop_append, tailN_len, List.drop_of_length_le (by rw [tailN_len]; omega)]; rfl
  rw [h1, h2, numF_tail, numF_tail, e16, Nat.mod_eq_of_lt hp.1, Nat.mod_eq_of_lt hp.2]
  simp
theorem two_keep {w1 w2 : World} {a : Nat} {x0 x1 : Value} (h : w1.cell? ⟨a, 0, none⟩ = some x0 ∧ w1.cell? ⟨a, 1, none⟩ = some x1) (hb : Below w1.heap.size w1 w2) : w2.cell? ⟨a, 0, none⟩ = some x0 ∧ w2.cell? ⟨a, 1, none⟩ = some x1 :=
  ⟨(hb.cell (cell_lt h.1)).trans h.1, (hb.cell (cell_lt h.2)).trans h.2⟩
theorem two_new (w : World) (x0 x1 : Value) (t : TypeId) : (w.alloc (.cells #[x0, x1] t)).cell? ⟨w.heap.size, 0, none⟩ = some x0 ∧ (w.alloc (.cells #[x0, x1] t)).cell? ⟨w.heap.size, 1, none⟩ = some x1 :=
  ⟨cell_of_row _ _ _ _ _ _ (World.alloc_heap_new w _), cell_of_row _ _ _ _ _ _ (World.alloc_heap_new w _)⟩
theorem below_new (w : World) (o : Obj) : Below w.heap.size w (w.alloc o) := (Below.refl _ w).alloc (Nat.le_refl _) o

set_option maxHeartbeats 4000000 in
theorem texts_in (p : Nat × Nat) (l : List UInt8) (w : World) (hp : Two p) (hl : l.length ≤ 100) :
    Calls Try.prog 4 #[stV p, .string (ofL l)] w fun e w' => e = .returned (.bool true) ∧ Below w.heap.size w w' := by
  have C1 := hide (fun W => text_any p W hp)
  have C2 := hide (fun W => (show Calls Try.prog 8 #[.string (ofL (textL p))] W fun e w' => e = .returned (.tuple #[stV p, .int .i64 0]) ∧ Below W.heap.size W w' from by
    have h := parse_any (textL p) W
    rw [parse_text p hp] at h
    exact h))
  have C3 := hide (fun W => parse_any l W)
  have C4 := hide (fun W => refParse_any l W)
  have C5 := hide (fun W => refText_any p W hp)
  have hs : ((ofL l).size : Int) ≤ 100 := by rw [hofL_size]; omega
  simp only [show ∀ p : Nat × Nat, stV p = .agg #[.int .u64 (p.1 : Nat), .int .u64 (p.2 : Nat)] from fun _ => rfl] at C1 C2 C3 C4 C5 ⊢
  obtain ⟨q, hq⟩ : ∃ q, q = (parseL l).getD (0, 0) := ⟨_, rfl⟩
  obtain ⟨x, hx⟩ : ∃ x, x = ofL (textL p) := ⟨_, rfl⟩
  obtain ⟨y, hy⟩ : ∃ y, y = ofL l := ⟨_, rfl⟩
  obtain ⟨o, ho⟩ : ∃ o, o = parseL l := ⟨_, rfl⟩
  rw [← hq] at C3 C4
  rw [← hx] at C1 C2 C5
  rw [← hy] at C3 C4 hs ⊢
  rw [← ho] at C3 C4
  have hcase : (o.isSome = true ∧ errP o = 0) ∨ (o.isSome = false ∧ errP o = 3) := by
    cases o with
    | none => exact .inr ⟨rfl, rfl⟩
    | some _ => exact .inl ⟨rfl, rfl⟩
  clear hq hx hy ho hl
  obtain ⟨ok, hok⟩ : ∃ ok, ok = o.isSome := ⟨_, rfl⟩
  obtain ⟨er, her⟩ : ∃ er, er = errP o := ⟨_, rfl⟩
  rw [← hok, ← her] at hcase
  rw [← her] at C3
  rw [← hok] at C4
  clear hok her
  have hB0 := below_new w (.cells #[.int .u64 (p.1 : Nat), .int .u64 (p.2 : Nat)] 26)
  have hS0 := two_new w (.int .u64 (p.1 : Nat)) (.int .u64 (p.2 : Nat)) 26
  have main : ∀ (ok0 : Bool) (er0 : Int), ok = ok0 → er = er0 → ((ok0 = true ∧ er0 = 0) ∨ (ok0 = false ∧ er0 = 3)) → True := fun _ _ _ _ _ => trivial
  clear main
  rcases hcase with ⟨h1, h2⟩ | ⟨h1, h2⟩
  all_goals
    rw [h1] at C4
    rw [h2] at C3
    clear h1 h2
    go_enter Try.func4, Try.ntmps4
    go_wp2_with fail
    generalize (w.alloc (.cells #[.int .u64 (p.1 : Nat), .int .u64 (p.2 : Nat)] 26)) = w1 at hB0 hS0 ⊢
    obtain ⟨a0, a1⟩ := id hS0
    go_wp2_with fail
    refine (C1.out _).mono ?_
    rintro e w2 ⟨rfl, hB2⟩
    have hS2 := two_keep hS0 hB2
    have hB3 := hB0.trans (hB2.mono hB0.size)
    clear hS0 a0 a1 hB0 hB2
    go_wp2_with fail
    refine (C2.out _).mono ?_
    rintro e w3 ⟨rfl, hB4⟩
    have hS3 := two_keep (two_keep hS2 hB4) (below_new w3 (.cells #[.int .u64 (p.1 : Nat), .int .u64 (p.2 : Nat)] 26))
    have hT3 := two_new w3 (.int .u64 (p.1 : Nat)) (.int .u64 (p.2 : Nat)) 26
    have hB5 := (hB3.trans (hB4.mono hB3.size)).alloc (hB3.trans (hB4.mono hB3.size)).size (.cells #[.int .u64 (p.1 : Nat), .int .u64 (p.2 : Nat)] 26)
    clear hS2 hB3 hB4
    go_wp2_with fail
    generalize w3.alloc (.cells #[.int .u64 (p.1 : Nat), .int .u64 (p.2 : Nat)] 26) = w4 at hS3 hT3 hB5 ⊢
    generalize w3.heap.size = g6 at hT3 ⊢
    refine (C3.out _).mono ?_
    rintro e w5 ⟨rfl, hB6⟩
    have hS5 := two_keep (two_keep hS3 hB6) (below_new w5 (.cells #[.int .u64 (q.1 : Nat), .int .u64 (q.2 : Nat)] 26))
    have hT5 := two_keep (two_keep hT3 hB6) (below_new w5 (.cells #[.int .u64 (q.1 : Nat), .int .u64 (q.2 : Nat)] 26))
    have hU5 := two_new w5 (.int .u64 (q.1 : Nat)) (.int .u64 (q.2 : Nat)) 26
    have hB7 := (hB5.trans (hB6.mono hB5.size)).alloc (hB5.trans (hB6.mono hB5.size)).size (.cells #[.int .u64 (q.1 : Nat), .int .u64 (q.2 : Nat)] 26)
    clear hS3 hT3 hB5 hB6
    go_wp2_with fail
    generalize w5.alloc (.cells #[.int .u64 (q.1 : Nat), .int .u64 (q.2 : Nat)] 26) = w6 at hS5 hT5 hU5 hB7 ⊢
    generalize w5.heap.size = g8 at hU5 ⊢
    refine (C4.out _).mono ?_
    rintro e w7 ⟨rfl, hB8⟩
    have hS7 := two_keep (two_keep hS5 hB8) (below_new w7 (.cells #[.int .u64 (q.1 : Nat), .int .u64 (q.2 : Nat)] 26))
    have hT7 := two_keep (two_keep hT5 hB8) (below_new w7 (.cells #[.int .u64 (q.1 : Nat), .int .u64 (q.2 : Nat)] 26))
    have hU7 := two_keep (two_keep hU5 hB8) (below_new w7 (.cells #[.int .u64 (q.1 : Nat), .int .u64 (q.2 : Nat)] 26))
    have hV7 := two_new w7 (.int .u64 (q.1 : Nat)) (.int .u64 (q.2 : Nat)) 26
    have hB9 := (hB7.trans (hB8.mono hB7.size)).alloc (hB7.trans (hB8.mono hB7.size)).size (.cells #[.int .u64 (q.1 : Nat), .int .u64 (q.2 : Nat)] 26)
    clear hS5 hT5 hU5 hB7 hB8
    go_wp2_with fail
    generalize w7.alloc (.cells #[.int .u64 (q.1 : Nat), .int .u64 (q.2 : Nat)] 26) = w8 at hS7 hT7 hU7 hV7 hB9 ⊢
    generalize w7.heap.size = g10 at hV7 ⊢
    refine (awake_any _).mono ?_
    rintro e w9 ⟨rfl, hB10⟩
    have hS9 := two_keep hS7 hB10
    have hT9 := two_keep hT7 hB10
    have hU9 := two_keep hU7 hB10
    have hV9 := two_keep hV7 hB10
    have hB11 := hB9.trans (hB10.mono hB9.size)
    clear hS7 hT7 hU7 hV7 hB9 hB10
    obtain ⟨a0, a1⟩ := id hS9
    go_wp2_with fail
    refine (C5.out _).mono ?_
    rintro e w10 ⟨rfl, hB12⟩
    obtain ⟨b0, b1⟩ := two_keep hS9 hB12
    obtain ⟨b2, b3⟩ := two_keep hT9 hB12
    obtain ⟨b4, b5⟩ := two_keep hU9 hB12
    obtain ⟨b6, b7⟩ := two_keep hV9 hB12
    have hB13 := hB11.trans (hB12.mono hB11.size)
    clear hS9 hT9 hU9 hV9 hB11 hB12 a0 a1
    go_wp2_with fail
    exact bodyPost_ret (results_tmp rfl _ _ _) rfl ⟨rfl, hB13⟩

set_option maxHeartbeats 2000000 in
theorem texts_law (p : Nat × Nat) (l : List UInt8) (w : World) (hp : Two p) :
    Calls Try.prog 4 #[stV p, .string (ofL l)] w fun e w' => e = .returned (.bool true) ∧ Below w.heap.size w w' := by
  by_cases h : 100 < l.length
  · have hs : (100 : Int) < ((ofL l).size : Nat) := by rw [hofL_size]; omega
    have hB0 := below_new w (.cells #[.int .u64 (p.1 : Nat), .int .u64 (p.2 : Nat)] 26)
    rw [show stV p = .agg #[.int .u64 (p.1 : Nat), .int .u64 (p.2 : Nat)] from rfl]
    clear h hp
    go_enter Try.func4, Try.ntmps4
    go_wp2_with fail
    refine (awake_any _).mono ?_
    rintro e w9 ⟨rfl, hB9⟩
    have hBz := hB0.trans (hB9.mono hB0.size)
    go_wp2_with fail
    exact bodyPost_ret (results_tmp rfl _ _ _) rfl ⟨rfl, hBz⟩
  · exact texts_in p l w hp (by omega)
end Go.Proofs.Ytffhkdbdcpobbab
