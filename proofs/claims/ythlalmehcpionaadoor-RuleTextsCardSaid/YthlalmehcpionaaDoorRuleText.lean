/-
  The program's Text.
-/
import Derived.Test.YthlalmehcpionaaDoorRuleBuf
import Derived.Test.YthlalmehcpionaaDoorRefTexts
namespace Go.Proofs.YthlalmehcpionaaDoor
open Go.RowKit
set_option maxRecDepth 100000

theorem BufAt.step {B b : Nat} {p : Value} {bs : List Value} {w w' : World} (h : BufAt B b p bs w) (hb : Below w.heap.size w w') : BufAt B b p bs w' := by
  obtain ⟨hB, v, hbk, hown, hne⟩ := h
  exact ⟨hB, v, (hb.block _ (Array.getElem?_eq_some_iff.1 hbk).1).trans hbk, own_below hown hb, hne⟩
theorem IsBuf.step {B b : Nat} {bs : List Value} {w w' : World} (h : IsBuf B b bs w) (hb : Below w.heap.size w w') : IsBuf B b bs w' := by
  rcases h with h | h
  · exact .inl (BufAt.step h hb)
  · exact .inr (BufAt.step h hb)
theorem byte_snoc (l : List UInt8) (c : UInt8) (n : Int) (h : n = c.toNat) : Lib.byteCells l ++ [.int .u8 n] = Lib.byteCells (l ++ [c]) := by
  rw [h]; simp [Lib.byteCells]
theorem byte_text (l : List UInt8) (s : ByteArray) : Lib.byteCells l ++ Lib.strCells s = Lib.byteCells (l ++ toL s) := by
  simp [Lib.byteCells, Lib.strCells, toL]
theorem line_len (r : Bool × List UInt8) : (lineL r).length = r.2.length + 3 := by unfold lineL; simp

theorem RdR.below' {w W W2 : World} {A : Option Addr} {l : List (Bool × ByteArray)} (h : RdR W w.heap.size A l) (h1 : Below w.heap.size w W) (h2 : Below w.heap.size w W2) : RdR W2 w.heap.size A l := fun k r hk => by
  obtain ⟨ad, e, hlt, c0, c1⟩ := h k r hk
  have e1 : W2.cell? (ad.add (k * 2)) = W.cell? (ad.add (k * 2)) := (h2.cell (by rw [add_block]; exact hlt)).trans (h1.cell (by rw [add_block]; exact hlt)).symm
  have e2 : W2.cell? ⟨(ad.add (k * 2)).block, (ad.add (k * 2)).off + 1, none⟩ = W.cell? ⟨(ad.add (k * 2)).block, (ad.add (k * 2)).off + 1, none⟩ := (h2.cell (by show (ad.add (k * 2)).block < _; rw [add_block]; exact hlt)).trans (h1.cell (by show (ad.add (k * 2)).block < _; rw [add_block]; exact hlt)).symm
  exact ⟨ad, e, hlt, e1.trans c0, e2.trans c1⟩
set_option maxHeartbeats 4000000 in
theorem textR_any (A : Option Addr) (l : List (Bool × ByteArray)) (c : Nat) (w : World) (hA : RdR w w.heap.size A l) (hf : Few l) (hl : (l.length : Int) ≤ 1000000) :
    Calls Tryd.prog 20 #[.slice A l.length c] w fun e w' => (∃ g : ByteArray, e = .returned (.string g) ∧ toL g = textsL (rulesL l)) ∧ Below w.heap.size w w' := by
  have HF := hide hf
  clear hf
  go_enter Tryd.func20, Tryd.ntmps20
  go_wp2_with fail
  go_loopg [9] l.length (fun gk iv wr => ∃ (i : Nat) (L : List UInt8), iv = .int .i64 i ∧ i + gk = l.length ∧ Hid (L = textsL (rulesL (l.take i))) ∧ (L.length : Int) ≤ 1000003 * i ∧ (i = 0 → wr.heap[w.heap.size]? = some (.cells #[.pointer none, .slice none 0 0] 74 (0, 0))) ∧ IsBuf w.heap.size w.heap.size (Lib.byteCells L) wr ∧ Below w.heap.size w wr ∧ RdR wr w.heap.size A l)
  case atStart =>
    have hn := World.alloc_heap_new w (.cells #[.pointer none, .slice none 0 0] 74)
    refine ⟨0, [], rfl, by omega, hide rfl, by decide, fun _ => hn, .inl ⟨Nat.le_refl _, _, hn, World.ownsRow_nil _ _ _ _, by simp [Value.ownBlock]⟩, (Below.refl _ _).alloc (Nat.le_refl _) _, hA.below ((Below.refl _ _).alloc (Nat.le_refl _) _) (Nat.le_refl _)⟩
  case round =>
    obtain ⟨i, L, rfl, hig, HL, hLs, h0, hbuf, hB, hR⟩ := hrel
    clear hA
    cases gk with
    | zero =>
      obtain rfl : i = l.length := by omega
      have HE := hide (show L = textsL (rulesL l) by rw [HL.out, List.take_length])
      by_cases hz : l.length = 0
      · have hL0 : L = [] := by
          rw [HE.out, List.length_eq_zero_iff.1 hz]; rfl
        have HS := hide (bufString_nil w.heap.size w.heap.size _ wr (h0 hz))
        have HZ := hide hL0
        clear h0 hbuf hz HL hL0
        go_wp2_with fail
        refine (HS.out).mono ?_
        rintro e w1 ⟨rfl, hb1⟩
        go_wp2_with fail
        exact bodyPost_ret (results_tmp rfl _ _ _) rfl ⟨⟨_, rfl, by rw [← HE.out, HZ.out]; rfl⟩, hB.trans hb1⟩
      · have hL0 : L ≠ [] := by
          intro h
          have h2 := congrArg List.length (HE.out.symm.trans h)
          cases hl2 : l with
          | nil => rw [hl2] at hz; exact hz rfl
          | cons r t =>
            rw [hl2] at h2
            have e : textsL (rulesL (r :: t)) = lineL (r.1, toL r.2) ++ textsL (rulesL t) := rfl
            rw [e, List.length_append, line_len] at h2
            simp at h2
        have HS := hide (bufString w.heap.size w.heap.size L wr hbuf hL0)
        clear h0 hbuf hz HL hL0
        go_wp2_with fail
        refine (HS.out).mono ?_
        rintro e w1 ⟨rfl, hb1⟩
        go_wp2_with fail
        exact bodyPost_ret (results_tmp rfl _ _ _) rfl ⟨⟨_, rfl, by rw [← HE.out]; simp [toL]⟩, hB.trans hb1⟩
    | succ g0 =>
      have hii : (i : Int) < l.length := by omega
      obtain ⟨r, hr⟩ : ∃ r, l[i]? = some r := ⟨_, List.getElem?_eq_getElem (by omega)⟩
      obtain ⟨ad, rfl, hlt, c0, c1⟩ := hR i r hr
      have hrs := HF.out i r hr
      have hiw : IntKind.i64.wrap ((i : Int) + 1) = ((i + 1 : Nat) : Int) := by rw [IntWalk.i64_in _ (by omega)]; rfl
      obtain ⟨kp, pat⟩ := r
      have hrs' : (pat.size : Int) ≤ 1000000 := hrs
      have hT : textsL (rulesL (l.take (i + 1))) = ((L ++ [if kp then 43 else 45]) ++ [32] ++ toL pat) ++ [10] := by
        rw [rules_take l i _ hr, texts_snoc, ← HL.out]
        simp [lineL]
      have HT := hide hT
      have hplen := size_toL pat
      obtain ⟨W3, hW3⟩ : ∃ W3, W3 = wr.alloc (.cells #[.bool kp, .string pat] 28) := ⟨_, rfl⟩
      have hBW3 : Below wr.heap.size wr W3 := by rw [hW3]; exact (Below.refl _ _).alloc (Nat.le_refl _) _
      have hbuf3 := IsBuf.step hbuf hBW3
      have hB3 : Below w.heap.size w W3 := hB.trans (hBW3.mono hB.size)
      have hr1 : W3.heap[wr.heap.size]? = some (.cells #[.bool kp, .string pat] 28 (0, 0)) := by rw [hW3]; exact World.alloc_heap_new _ _
      have H1 := hide (fun (n : Int) => bufByte w.heap.size w.heap.size (Lib.byteCells L) n W3 hbuf3 (by rw [Lib.byteCells_length]; omega) hB3.size)
      have HR := hide hR
      rw [hW3] at H1
      have HW := hide hW3
      have hnb : wr.heap.size ≠ w.heap.size := by
        have := hbuf.elim (fun h => h.lt) (fun h => h.lt)
        omega
      clear hT hW3 hbuf hbuf3 hBW3 h0 hr
      cases kp with
      | true =>
        go_wp2_with fail
        refine (H1.out _).mono ?_
        rintro e w4 ⟨rfl, hb4, hB4, hs4⟩
        rw [byte_snoc L 43 43 rfl] at hb4
        rw [← HW.out] at hB4 hs4
        have m4 := hs4 _ _ _ _ hr1 hnb (by decide)
        have k4 := hB3.trans hB4
        have H2 := hide (bufByte w.heap.size w.heap.size _ 32 w4 (.inr hb4) (by rw [Lib.byteCells_length, List.length_append]; simp; omega) k4.size)
        clear hb4 hB4 hs4
        go_wp2_with fail
        refine (H2.out).mono ?_
        rintro e w5 ⟨rfl, hb5, hB5, hs5⟩
        rw [byte_snoc _ 32 32 rfl] at hb5
        have m5 := hs5 _ _ _ _ m4 hnb (by decide)
        have k5 := k4.trans hB5
        have c5 : w5.cell? ⟨wr.heap.size, 1, none⟩ = some (.string pat) := cell_of_row _ _ _ _ _ _ m5
        have H3 := hide (bufText w.heap.size w.heap.size _ pat w5 (.inr hb5) (by rw [Lib.byteCells_length, List.length_append, List.length_append]; simp; omega) k5.size)
        clear hb5 hB5 hs5 m4 H2
        go_wp2_with fail
        refine (H3.out).mono ?_
        rintro e w6 ⟨rfl, hb6, hB6, hs6⟩
        rw [byte_text] at hb6
        have k6 := k5.trans hB6
        have H4 := hide (bufByte w.heap.size w.heap.size _ 10 w6 (.inr hb6) (by rw [Lib.byteCells_length, List.length_append, List.length_append, List.length_append, hplen]; simp; omega) k6.size)
        clear hb6 hB6 hs6 c5 m5 H3
        go_wp2_with fail
        refine (H4.out).mono ?_
        rintro e w7 ⟨rfl, hb7, hB7, hs7⟩
        rw [byte_snoc _ 10 10 rfl] at hb7
        have k7 := k6.trans hB7
        clear hB7 hs7 H4 HW
        go_wp2_with fail
        go_roundg g0
        case rel => exact ⟨i + 1, ((L ++ [43]) ++ [32] ++ toL pat) ++ [10], rfl, by omega, hide (by rw [HT.out]; simp), by simp only [List.length_append, hplen]; simp; omega, (fun h => absurd h (by omega)), .inr hb7, k7, HR.out.below' hB k7⟩
        case measure => omega
      | false =>
        go_wp2_with fail
        refine (H1.out _).mono ?_
        rintro e w4 ⟨rfl, hb4, hB4, hs4⟩
        rw [byte_snoc L 45 45 rfl] at hb4
        rw [← HW.out] at hB4 hs4
        have m4 := hs4 _ _ _ _ hr1 hnb (by decide)
        have k4 := hB3.trans hB4
        have H2 := hide (bufByte w.heap.size w.heap.size _ 32 w4 (.inr hb4) (by rw [Lib.byteCells_length, List.length_append]; simp; omega) k4.size)
        clear hb4 hB4 hs4
        go_wp2_with fail
        refine (H2.out).mono ?_
        rintro e w5 ⟨rfl, hb5, hB5, hs5⟩
        rw [byte_snoc _ 32 32 rfl] at hb5
        have m5 := hs5 _ _ _ _ m4 hnb (by decide)
        have k5 := k4.trans hB5
        have c5 : w5.cell? ⟨wr.heap.size, 1, none⟩ = some (.string pat) := cell_of_row _ _ _ _ _ _ m5
        have H3 := hide (bufText w.heap.size w.heap.size _ pat w5 (.inr hb5) (by rw [Lib.byteCells_length, List.length_append, List.length_append]; simp; omega) k5.size)
        clear hb5 hB5 hs5 m4 H2
        go_wp2_with fail
        refine (H3.out).mono ?_
        rintro e w6 ⟨rfl, hb6, hB6, hs6⟩
        rw [byte_text] at hb6
        have k6 := k5.trans hB6
        have H4 := hide (bufByte w.heap.size w.heap.size _ 10 w6 (.inr hb6) (by rw [Lib.byteCells_length, List.length_append, List.length_append, List.length_append, hplen]; simp; omega) k6.size)
        clear hb6 hB6 hs6 c5 m5 H3
        go_wp2_with fail
        refine (H4.out).mono ?_
        rintro e w7 ⟨rfl, hb7, hB7, hs7⟩
        rw [byte_snoc _ 10 10 rfl] at hb7
        have k7 := k6.trans hB7
        clear hB7 hs7 H4 HW
        go_wp2_with fail
        go_roundg g0
        case rel => exact ⟨i + 1, ((L ++ [45]) ++ [32] ++ toL pat) ++ [10], rfl, by omega, hide (by rw [HT.out]; simp), by simp only [List.length_append, hplen]; simp; omega, (fun h => absurd h (by omega)), .inr hb7, k7, HR.out.below' hB k7⟩
        case measure => omega
end Go.Proofs.YthlalmehcpionaaDoor
