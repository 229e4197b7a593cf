/-
  mix.Parse.
-/
import Derived.Test.YtffhkdbdcpobbabMixIndex
namespace Go.Proofs.Ytffhkdbdcpobbab
open Go.RowKit
set_option maxRecDepth 100000

theorem numF_add : ∀ (l : List UInt8) (s : Nat), numF l s = (numF l 0).map (fun n => s * 16 ^ l.length + n)
  | [], s => by simp [numF]
  | x :: l, s => by
    unfold numF
    cases hd : dig x with
    | none => rfl
    | some d =>
      show numF l (s * 16 + d) = (numF l (0 * 16 + d)).map _
      rw [numF_add l (s * 16 + d), numF_add l (0 * 16 + d), Option.map_map]
      congr 1
      funext n
      show (s * 16 + d) * 16 ^ l.length + n = s * 16 ^ (l.length + 1) + ((0 * 16 + d) * 16 ^ l.length + n)
      rw [Nat.pow_succ, Nat.add_mul, Nat.mul_assoc, Nat.mul_comm 16, Nat.zero_mul, Nat.zero_add, Nat.add_assoc]
theorem numF_app : ∀ (a b : List UInt8) (s : Nat), numF (a ++ b) s = (numF a s).bind (numF b)
  | [], b, s => rfl
  | x :: a, b, s => by
    show (match dig x with | none => none | some d => numF (a ++ b) (s * 16 + d)) = (match dig x with | none => none | some d => numF a (s * 16 + d)).bind (numF b)
    cases dig x with
    | none => rfl
    | some d => exact numF_app a b _
theorem numF_lt : ∀ (l : List UInt8) (s n : Nat), numF l s = some n → n < (s + 1) * 16 ^ l.length
  | [], s, n, h => by simp [numF] at h; subst h; simp
  | x :: l, s, n, h => by
    unfold numF at h
    cases hd : dig x with
    | none => rw [hd] at h; cases h
    | some d =>
      rw [hd] at h
      have hd16 := dig_lt x d hd
      have h2 := numF_lt l (s * 16 + d) n h
      have h3 : (s * 16 + d + 1) * 16 ^ l.length ≤ ((s + 1) * 16) * 16 ^ l.length := Nat.mul_le_mul_right _ (by omega)
      rw [List.length_cons, Nat.pow_succ, Nat.mul_comm (16 ^ l.length) 16, ← Nat.mul_assoc]
      omega
theorem parse_num (l : List UInt8) (h : l.length = 32) : parseL l = (numF l 0).map (fun n => (n / 18446744073709551616, n % 18446744073709551616)) := by
  unfold parseL
  rw [if_neg (by omega)]
  have hl : l = l.take 16 ++ l.drop 16 := (List.take_append_drop 16 l).symm
  have hd : (l.drop 16).length = 16 := by rw [List.length_drop]; omega
  have e : numF l 0 = (numF (l.take 16) 0).bind (numF (l.drop 16)) := by
    have := numF_app (l.take 16) (l.drop 16) 0
    rw [← hl] at this
    exact this
  rw [e]
  cases numF (l.take 16) 0 with
  | none => rfl
  | some a =>
    show _ = (numF (l.drop 16) a).map _
    rw [numF_add (l.drop 16) a, hd]
    cases hb : numF (l.drop 16) 0 with
    | none => rfl
    | some b =>
      have hlt := numF_lt _ _ _ hb
      rw [hd] at hlt
      have e16 : (16 : Nat) ^ 16 = 18446744073709551616 := by decide
      rw [e16] at hlt ⊢
      show some (a, b) = some ((a * 18446744073709551616 + b) / 18446744073709551616, (a * 18446744073709551616 + b) % 18446744073709551616)
      congr 2 <;> omega

theorem lo_step (N d : Nat) (hd : d < 16) : bits .or .u64 (IntKind.u64.wrap (((N % 18446744073709551616 : Nat) : Int) * 16)) (d : Int) = (((N * 16 + d) % 18446744073709551616 : Nat) : Int) := by
  have e : IntKind.u64.wrap (((N % 18446744073709551616 : Nat) : Int) * 16) = ((N % 1152921504606846976 * 16 : Nat) : Int) := by
    rw [show ((N % 18446744073709551616 : Nat) : Int) * 16 = ((N % 18446744073709551616 * 16 : Nat) : Int) by simp, wrap_mod]; omega
  rw [e, u64_or_nat _ _ (by omega) (by omega), show N % 1152921504606846976 * 16 = (N % 1152921504606846976) <<< 4 by rw [Nat.shiftLeft_eq], ← Nat.shiftLeft_add_eq_or_of_lt (by omega), Nat.shiftLeft_eq]
  omega
theorem hi_step (N d : Nat) (hd : d < 16) : bits .or .u64 (IntKind.u64.wrap (((N / 18446744073709551616 % 18446744073709551616 : Nat) : Int) * 16)) (((N % 18446744073709551616 : Nat) : Int) / 1152921504606846976) = (((N * 16 + d) / 18446744073709551616 % 18446744073709551616 : Nat) : Int) := by
  have e : IntKind.u64.wrap (((N / 18446744073709551616 % 18446744073709551616 : Nat) : Int) * 16) = ((N / 18446744073709551616 % 1152921504606846976 * 16 : Nat) : Int) := by
    rw [show ((N / 18446744073709551616 % 18446744073709551616 : Nat) : Int) * 16 = ((N / 18446744073709551616 % 18446744073709551616 * 16 : Nat) : Int) by simp, wrap_mod]; omega
  have e2 : ((N % 18446744073709551616 : Nat) : Int) / 1152921504606846976 = ((N % 18446744073709551616 / 1152921504606846976 : Nat) : Int) := by simp
  rw [e, e2, u64_or_nat _ _ (by omega) (by omega), show N / 18446744073709551616 % 1152921504606846976 * 16 = (N / 18446744073709551616 % 1152921504606846976) <<< 4 by rw [Nat.shiftLeft_eq], ← Nat.shiftLeft_add_eq_or_of_lt (by omega), Nat.shiftLeft_eq]
  omega
def errP (o : Option (Nat × Nat)) : Int := match o with | some _ => 0 | none => 3

set_option maxHeartbeats 4000000 in
theorem parse_any (l : List UInt8) (w : World) :
    Calls Try.prog 8 #[.string (ofL l)] w fun e w' => e = .returned (.tuple #[stV ((parseL l).getD (0, 0)), .int .i64 (errP (parseL l))]) ∧ Below w.heap.size w w' := by
  have hsz := hofL_size l
  by_cases h32 : l.length = 32
  · have hs : ((ofL l).size : Int) = 32 := by omega
    have HP := hide (parse_num l h32)
    obtain ⟨r0, r1, hB⟩ := two_rows w #[.int .u64 0, .int .u64 0] #[.int .u64 0, .int .u64 0] 26 26
    go_enter Try.func8, Try.ntmps8
    go_wp2_with fail
    generalize ((w.alloc (.cells #[.int .u64 0, .int .u64 0] 26)).alloc (.cells #[.int .u64 0, .int .u64 0] 26)) = w2 at r0 r1 hB ⊢
    go_loopw [3, 5, 6, 13] (fun _ _ _ i wr => ∃ k N : Nat, k ≤ 32 ∧ i = .int .i64 k ∧ Hid (N < 16 ^ k) ∧ Hid (numF l 0 = numF (l.drop k) N) ∧ wr.heap[w.heap.size]? = some (.cells #[.int .u64 0, .int .u64 0] 26 (0, 0)) ∧ wr.heap[w.heap.size + 1]? = some (.cells #[.int .u64 (N / 18446744073709551616 % 18446744073709551616 : Nat), .int .u64 (N % 18446744073709551616 : Nat)] 26 (0, 0)) ∧ Below w.heap.size w wr) (fun _ _ _ i _ => 32 - (intOf i).toNat)
    case atStart => exact ⟨0, 0, by decide, rfl, hide (by decide), hide rfl, r0, r1, hB⟩
    case round =>
      clear r0 r1 hB
      obtain ⟨k, N, hk, rfl, HA, HN, r0, r1, hB⟩ := hrel
      by_cases hlt : k < 32
      · have hkl : k < l.length := by omega
        have hki : (k : Int) < 32 := by omega
        have hx := List.getElem?_eq_getElem hkl
        have hst := HN.out.trans (numF_step l k N _ hx)
        have hxg : (ofL l)[k]'(by omega) = l[k] := by simp [ofL, ByteArray.getElem_eq_getElem_data]
        generalize l[k] = x at hx hst hxg
        have hI := fun W => index_any x W
        cases hd : dig x with
        | none =>
          rw [hd] at hst
          have HH := hide (show numF l 0 = none from hst)
          have hdi : digI x = -1 := by unfold digI; rw [hd]
          rw [hdi] at hI
          have d0 : wr.cell? ⟨w.heap.size, 0, none⟩ = some (.int .u64 0) := cell_of_row _ _ _ _ _ _ r0
          have d1 : wr.cell? ⟨w.heap.size, 1, none⟩ = some (.int .u64 0) := cell_of_row _ _ _ _ _ _ r0
          have z0 : wr.frozen? ⟨w.heap.size, 0, none⟩ = false := frozen_of_row _ _ _ _ _ r0
          have z1 : wr.frozen? ⟨w.heap.size, 1, none⟩ = false := frozen_of_row _ _ _ _ _ r0
          have HX := hide (set_two w wr w.heap.size _ _ (.int .u64 0) (.int .u64 0) _ r0 (Nat.le_refl _) hB)
          clear r0 r1 hB hst hx hdi hd
          go_wp2_with fail
          refine (hI _).mono ?_
          rintro e w3 ⟨rfl, rfl⟩
          go_wp2_with fail
          obtain ⟨y0, y1, hBf⟩ := HX.out
          refine bodyPost_ret (v := .tuple #[.agg #[.int .u64 0, .int .u64 0], .int .i64 3]) (by simp [results, Try.results8, go_sem, y0, y1]) rfl ⟨by rw [HP.out, HH.out]; rfl, hBf⟩
        | some d =>
          rw [hd] at hst
          have HH := hide (show numF l 0 = numF (l.drop (k + 1)) (N * 16 + d) from hst)
          have hdi : digI x = (d : Nat) := by unfold digI; rw [hd]
          rw [hdi] at hI
          have hd16 := dig_lt x d hd
          have hs1 := hi_step N d hd16
          have hs2 := lo_step N d hd16
          have HA2 := hide (show N * 16 + d < 16 ^ (k + 1) by rw [Nat.pow_succ]; have := HA.out; omega)
          have e4 : IntKind.u64.wrap (d : Int) = (d : Int) := by rw [wrap_mod]; omega
          have hd0 : ¬ (d : Int) < 0 := by omega
          have c0 : wr.cell? ⟨w.heap.size + 1, 0, none⟩ = some (.int .u64 (N / 18446744073709551616 % 18446744073709551616 : Nat)) := cell_of_row _ _ _ _ _ _ r1
          have c1 : wr.cell? ⟨w.heap.size + 1, 1, none⟩ = some (.int .u64 (N % 18446744073709551616 : Nat)) := cell_of_row _ _ _ _ _ _ r1
          have z0 : wr.frozen? ⟨w.heap.size + 1, 0, none⟩ = false := frozen_of_row _ _ _ _ _ r1
          have z1 : wr.frozen? ⟨w.heap.size + 1, 1, none⟩ = false := frozen_of_row _ _ _ _ _ r1
          obtain ⟨N2, hN2⟩ : ∃ N2, N2 = N * 16 + d := ⟨_, rfl⟩
          rw [← hN2] at hs1 hs2 HA2 HH
          clear hst hx hdi hd hN2
          generalize N / 18446744073709551616 % 18446744073709551616 = hi at hs1 c0 r1
          generalize N % 18446744073709551616 = lo at hs1 hs2 c1 r1
          generalize h3 : N2 / 18446744073709551616 % 18446744073709551616 = hi2 at hs1
          generalize h4 : N2 % 18446744073709551616 = lo2 at hs2
          have H3 := hide h3
          have H4 := hide h4
          clear h3 h4 hd16
          have HX := hide (And.intro (heap_setCell_same _ (w.heap.size + 1) 1 _ _ (.int .u64 (lo2 : Nat)) (heap_setCell_same wr (w.heap.size + 1) 0 _ _ (.int .u64 (hi2 : Nat)) r1)) (And.intro (show ((wr.setCell ⟨w.heap.size + 1, 0, none⟩ (.int .u64 (hi2 : Nat))).setCell ⟨w.heap.size + 1, 1, none⟩ (.int .u64 (lo2 : Nat))).heap[w.heap.size]? = some (.cells #[.int .u64 0, .int .u64 0] 26 (0, 0)) by
            rw [Below.heap_setCell _ _ _ _ (by simp), Below.heap_setCell _ _ _ _ (by simp)]; exact r0) ((hB.setCell (p := ⟨w.heap.size + 1, 0, none⟩) (by simp) (.int .u64 (hi2 : Nat))).setCell (p := ⟨w.heap.size + 1, 1, none⟩) (by simp) (.int .u64 (lo2 : Nat)))))
          clear r0 r1 hB
          go_wp2_with fail
          refine (hI _).mono ?_
          rintro e w3 ⟨rfl, rfl⟩
          go_wp2_with fail
          go_roundw
          case rel => exact ⟨k + 1, N2, by omega, rfl, HA2, HH, HX.out.2.1, by rw [H3.out, H4.out]; exact HX.out.1, HX.out.2.2⟩
          case measure => simp [intOf]; omega
      · have hk32 : k = 32 := by omega
        have hNl : N < 340282366920938463463374607431768211456 := by have h := HA.out; rw [hk32] at h; exact h
        have HE := hide (show parseL l = some (N / 18446744073709551616 % 18446744073709551616, N % 18446744073709551616) by
          rw [HP.out, HN.out, List.drop_of_length_le (by omega)]
          show some (N / 18446744073709551616, N % 18446744073709551616) = _
          rw [Nat.mod_eq_of_lt (a := N / 18446744073709551616) (by omega)])
        have hki : ¬ (k : Int) < 32 := by omega
        clear hk32 hNl HN HA hlt
        have c0 : wr.cell? ⟨w.heap.size + 1, 0, none⟩ = some (.int .u64 (N / 18446744073709551616 % 18446744073709551616 : Nat)) := cell_of_row _ _ _ _ _ _ r1
        have c1 : wr.cell? ⟨w.heap.size + 1, 1, none⟩ = some (.int .u64 (N % 18446744073709551616 : Nat)) := cell_of_row _ _ _ _ _ _ r1
        generalize N / 18446744073709551616 % 18446744073709551616 = hi at c0 r1 HE
        generalize N % 18446744073709551616 = lo at c1 r1 HE
        have d0 : wr.cell? ⟨w.heap.size, 0, none⟩ = some (.int .u64 0) := cell_of_row _ _ _ _ _ _ r0
        have d1 : wr.cell? ⟨w.heap.size, 1, none⟩ = some (.int .u64 0) := cell_of_row _ _ _ _ _ _ r0
        have z0 : wr.frozen? ⟨w.heap.size, 0, none⟩ = false := frozen_of_row _ _ _ _ _ r0
        have z1 : wr.frozen? ⟨w.heap.size, 1, none⟩ = false := frozen_of_row _ _ _ _ _ r0
        have HX := hide (set_two w wr w.heap.size _ _ (.int .u64 (hi : Nat)) (.int .u64 (lo : Nat)) _ r0 (Nat.le_refl _) hB)
        clear r0 r1 hB
        go_wp2_with fail
        obtain ⟨y0, y1, hBf⟩ := HX.out
        refine bodyPost_ret (v := .tuple #[.agg #[.int .u64 (hi : Nat), .int .u64 (lo : Nat)], .int .i64 0]) (by simp [results, Try.results8, go_sem, y0, y1]) rfl ⟨by rw [HE.out]; rfl, hBf⟩
  · have HP := hide (show parseL l = none by unfold parseL; rw [if_pos h32])
    have hs : (((ofL l).size : Int) != 32) = true := by rw [bne_iff_ne]; omega
    rw [HP.out]
    clear HP h32
    generalize ofL l = sl at hs ⊢
    clear hsz
    go_enter Try.func8, Try.ntmps8
    go_wp2_with fail
    refine bodyPost_ret (v := .tuple #[.agg #[.int .u64 0, .int .u64 0], .int .i64 3]) (by simp [results, Try.results8, go_sem]) rfl ⟨rfl, (Below.refl _ w).alloc (Nat.le_refl _) _⟩
end Go.Proofs.Ytffhkdbdcpobbab
