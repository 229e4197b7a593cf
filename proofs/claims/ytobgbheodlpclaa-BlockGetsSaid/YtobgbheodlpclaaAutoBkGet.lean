/-
  Texts that belong together: BkMath, BkGet.
-/
import Derived.Test.YtobgbheodlpclaaAutoMixMath
import Derived.Test.YtobgbheodlpclaaAutoConcat
import Derived.Test.YtobgbheodlpclaaAutoBkPutAll
import Derived.Test.YtobgbheodlpclaaAutoTkMath
import Derived.Test.YtobgbheodlpclaaAutoVintNil
/-
  A signature's bytes are read back, and what is read has just these bytes; how many blocks there are.
-/
namespace Go.Proofs.Ytobgbheodlpclaa
open Go.RowKit
set_option maxRecDepth 100000

/-- A word of eight bytes. -/
theorem word_take (l : List UInt8) (h : 8 ≤ l.length) : wordL (halfN l) = l.take 8 := by
  match l, h with
  | a0 :: a1 :: a2 :: a3 :: a4 :: a5 :: a6 :: a7 :: r, _ =>
    have b0 := a0.toNat_lt
    have b1 := a1.toNat_lt
    have b2 := a2.toNat_lt
    have b3 := a3.toNat_lt
    have b4 := a4.toNat_lt
    have b5 := a5.toNat_lt
    have b6 := a6.toNat_lt
    have b7 := a7.toNat_lt
    have e : halfN (a0 :: a1 :: a2 :: a3 :: a4 :: a5 :: a6 :: a7 :: r) = (((((((a0.toNat * 256 + a1.toNat) * 256 + a2.toNat) * 256 + a3.toNat) * 256 + a4.toNat) * 256 + a5.toNat) * 256 + a6.toNat) * 256 + a7.toNat) := by
      simp [halfN, halfF]
    rw [e]
    generalize hN : (((((((a0.toNat * 256 + a1.toNat) * 256 + a2.toNat) * 256 + a3.toNat) * 256 + a4.toNat) * 256 + a5.toNat) * 256 + a6.toNat) * 256 + a7.toNat) = N
    have g0 : N / 256 ^ 7 % 256 = a0.toNat := by rw [show (256 : Nat) ^ 7 = 72057594037927936 by decide]; omega
    have g1 : N / 256 ^ 6 % 256 = a1.toNat := by rw [show (256 : Nat) ^ 6 = 281474976710656 by decide]; omega
    have g2 : N / 256 ^ 5 % 256 = a2.toNat := by rw [show (256 : Nat) ^ 5 = 1099511627776 by decide]; omega
    have g3 : N / 256 ^ 4 % 256 = a3.toNat := by rw [show (256 : Nat) ^ 4 = 4294967296 by decide]; omega
    have g4 : N / 256 ^ 3 % 256 = a4.toNat := by rw [show (256 : Nat) ^ 3 = 16777216 by decide]; omega
    have g5 : N / 256 ^ 2 % 256 = a5.toNat := by rw [show (256 : Nat) ^ 2 = 65536 by decide]; omega
    have g6 : N / 256 ^ 1 % 256 = a6.toNat := by rw [show (256 : Nat) ^ 1 = 256 by decide]; omega
    have g7 : N / 256 ^ 0 % 256 = a7.toNat := by rw [show (256 : Nat) ^ 0 = 1 by decide]; omega
    show [UInt8.ofNat (N / 256 ^ 7 % 256), UInt8.ofNat (N / 256 ^ 6 % 256), UInt8.ofNat (N / 256 ^ 5 % 256), UInt8.ofNat (N / 256 ^ 4 % 256), UInt8.ofNat (N / 256 ^ 3 % 256), UInt8.ofNat (N / 256 ^ 2 % 256), UInt8.ofNat (N / 256 ^ 1 % 256), UInt8.ofNat (N / 256 ^ 0 % 256)] = _
    rw [g0, g1, g2, g3, g4, g5, g6, g7]
    simp
theorem readS_once (l : List UInt8) (e : Nat) (h : (readS l e).2.2 = 0) : e = 0 ∧ l = (wordL (readS l e).1.1 ++ wordL (readS l e).1.2) ++ (readS l e).2.1 := by
  unfold readS at h ⊢
  split at h
  · rename_i h1; exact absurd h h1
  · rename_i h1
    rw [if_neg h1]
    split at h
    · cases h
    · rename_i h2
      rw [if_neg h2]
      refine ⟨by simpa using h1, ?_⟩
      show l = (wordL (halfN l) ++ wordL (halfN (l.drop 8))) ++ l.drop 16
      rw [word_take l (by omega), word_take _ (by rw [List.length_drop]; omega), List.append_assoc, show l.drop 16 = (l.drop 8).drop 8 by rw [List.drop_drop], List.take_append_drop, List.take_append_drop]
theorem readS_err (l : List UInt8) (e : Nat) (h : e ≠ 0) : readS l e = ((0, 0), l, e) := by unfold readS; rw [if_pos h]

/-- A sign that stands at the bytes' head. -/
def readSg (l : List UInt8) (e : Nat) : Sg × List UInt8 × Nat :=
  (⟨(readN l e 4294967295).1, (readS (readN l e 4294967295).2.1 (readN l e 4294967295).2.2).1.1, (readS (readN l e 4294967295).2.1 (readN l e 4294967295).2.2).1.2⟩, (readS (readN l e 4294967295).2.1 (readN l e 4294967295).2.2).2)
theorem readSg_err (l : List UInt8) (e : Nat) (h : e ≠ 0) : readSg l e = (⟨0, 0, 0⟩, l, e) := by
  unfold readSg; rw [readN_err _ _ _ h]; simp only; rw [readS_err _ _ h]
theorem readSg_once (l : List UInt8) (e : Nat) (h : (readSg l e).2.2 = 0) : e = 0 ∧ l = signBy (readSg l e).1 ++ (readSg l e).2.1 := by
  obtain ⟨h1, h2⟩ := readS_once _ _ h
  obtain ⟨h3, h4⟩ := readN_once' _ _ _ h1
  refine ⟨h3, ?_⟩
  show l = (groupsL (readN l e 4294967295).1 ++ (wordL _ ++ wordL _)) ++ _
  rw [List.append_assoc]
  exact h4.trans (congrArg _ h2)
theorem readSg_back (s : Sg) (r : List UInt8) (h : s.fits) : readSg (signBy s ++ r) 0 = (s, r, 0) := by
  obtain ⟨wk, hi, lo⟩ := s
  obtain ⟨f1, f2, f3⟩ := h
  simp only at f1 f2 f3
  show readSg ((groupsL wk ++ (wordL hi ++ wordL lo)) ++ r) 0 = _
  unfold readSg
  rw [List.append_assoc, readN_back wk 4294967295 _ (by omega) (by omega)]
  simp only
  rw [readS_back hi lo r (by omega) (by omega)]
/-- Signs, one behind the other. -/
def readSgs : Nat → List Sg → List UInt8 → Nat → List Sg × List UInt8 × Nat
  | 0, o, l, e => (o, l, e)
  | n + 1, o, l, e => readSgs n (o ++ [(readSg l e).1]) (readSg l e).2.1 (readSg l e).2.2
theorem readSgs_err : ∀ (n : Nat) (o : List Sg) (l : List UInt8) (e : Nat), e ≠ 0 → (readSgs n o l e).2 = (l, e)
  | 0, _, _, _, _ => rfl
  | n + 1, o, l, e, h => by
    unfold readSgs
    rw [readSg_err _ _ h]
    exact readSgs_err n _ l e h
theorem readSgs_once : ∀ (n : Nat) (o : List Sg) (l : List UInt8) (e : Nat), (readSgs n o l e).2.2 = 0 → e = 0 ∧ ∃ q, (readSgs n o l e).1 = o ++ q ∧ q.length = n ∧ l = q.flatMap signBy ++ (readSgs n o l e).2.1
  | 0, o, l, e, h => ⟨h, [], by simp [readSgs], rfl, by simp [readSgs]⟩
  | n + 1, o, l, e, h => by
    unfold readSgs at h ⊢
    obtain ⟨h1, q, h2, h3, h4⟩ := readSgs_once n _ _ _ h
    obtain ⟨h5, h6⟩ := readSg_once l e h1
    refine ⟨h5, (readSg l e).1 :: q, by rw [h2]; simp, by rw [List.length_cons, h3], ?_⟩
    rw [List.flatMap_cons, List.append_assoc, ← h4]
    exact h6
theorem readSgs_back : ∀ (q o : List Sg) (r : List UInt8), (∀ s ∈ q, s.fits) → readSgs q.length o (q.flatMap signBy ++ r) 0 = (o ++ q, r, 0)
  | [], o, r, _ => by simp [readSgs]
  | s :: q, o, r, h => by
    rw [List.length_cons, List.flatMap_cons]
    unfold readSgs
    rw [List.append_assoc, readSg_back s _ (h s List.mem_cons_self)]
    simp only
    rw [readSgs_back q _ r (fun a ha => h a (List.mem_cons_of_mem _ ha))]
    simp

/-- What a reader has read of a signature. -/
structure Sig where
  size : Nat
  blocks : List Sg
  tail : Nat
  last : Sg
def bySig (s : Sig) : List UInt8 := groupsL s.size ++ groupsL s.blocks.length ++ s.blocks.flatMap signBy ++ groupsL s.tail ++ (if s.tail ≠ 0 then signBy s.last else [])
/-- The last sign, if there is a tail. -/
def readLast (t : Nat) (l : List UInt8) (e : Nat) : Sg × List UInt8 × Nat := if t ≠ 0 then readSg l e else (⟨0, 0, 0⟩, l, e)
theorem readLast_once (t : Nat) (l : List UInt8) (e : Nat) (h : (readLast t l e).2.2 = 0) : e = 0 ∧ l = (if t ≠ 0 then signBy (readLast t l e).1 else []) ++ (readLast t l e).2.1 ∧ (t = 0 → (readLast t l e).1 = ⟨0, 0, 0⟩) := by
  unfold readLast at h ⊢
  by_cases ht : t ≠ 0
  · rw [if_pos ht] at h ⊢
    rw [if_pos ht]
    obtain ⟨h1, h2⟩ := readSg_once l e h
    exact ⟨h1, h2, fun h0 => absurd h0 ht⟩
  · rw [if_neg ht] at h ⊢
    rw [if_neg ht]
    exact ⟨h, rfl, fun _ => rfl⟩
def sgs1 (l : List UInt8) := readN l 0 64
def sgs2 (l : List UInt8) := readN (sgs1 l).2.1 (sgs1 l).2.2 4096
def sgs3 (l : List UInt8) := readSgs (sgs2 l).1 [] (sgs2 l).2.1 (sgs2 l).2.2
def sgs4 (l : List UInt8) := readN (sgs3 l).2.1 (sgs3 l).2.2 63
def sgs5 (l : List UInt8) := readLast (sgs4 l).1 (sgs4 l).2.1 (sgs4 l).2.2
/-- A signature that stands at the bytes' head. -/
def readSig (l : List UInt8) : Sig × List UInt8 × Nat := (⟨(sgs1 l).1, (sgs3 l).1, (sgs4 l).1, (sgs5 l).1⟩, (sgs5 l).2)
theorem readSig_once (l : List UInt8) (h : (readSig l).2.2 = 0) : l = bySig (readSig l).1 ++ (readSig l).2.1 ∧ ((readSig l).1.tail = 0 → (readSig l).1.last = ⟨0, 0, 0⟩) := by
  obtain ⟨a1, a2, a3⟩ := readLast_once _ _ _ h
  obtain ⟨b1, b2⟩ := readN_once' _ _ _ a1
  obtain ⟨c1, q, c2, c3, c4⟩ := readSgs_once _ _ _ _ b1
  obtain ⟨d1, d2⟩ := readN_once' _ _ _ c1
  have e2 := readN_once l 64 d1
  refine ⟨?_, a3⟩
  have hq : (sgs3 l).1 = q := by rw [show (sgs3 l).1 = [] ++ q from c2, List.nil_append]
  show l = (groupsL (sgs1 l).1 ++ groupsL (sgs3 l).1.length ++ (sgs3 l).1.flatMap signBy ++ groupsL (sgs4 l).1 ++ (if (sgs4 l).1 ≠ 0 then signBy (sgs5 l).1 else [])) ++ (sgs5 l).2.1
  rw [hq, c3]
  simp only [List.append_assoc]
  refine e2.trans (congrArg _ ?_)
  refine d2.trans (congrArg _ ?_)
  refine c4.trans (congrArg _ ?_)
  refine b2.trans (congrArg _ ?_)
  exact a2
theorem readSig_back (s : Sig) (h1 : s.size ≤ 64) (h2 : s.blocks.length ≤ 4096) (h3 : s.tail ≤ 63) (h4 : ∀ x ∈ s.blocks, x.fits) (h5 : s.last.fits) (h6 : s.tail = 0 → s.last = ⟨0, 0, 0⟩) : readSig (bySig s) = (s, [], 0) := by
  obtain ⟨z, q, t, x⟩ := s
  simp only at h1 h2 h3 h4 h5 h6
  have e1 : sgs1 (bySig ⟨z, q, t, x⟩) = (z, groupsL q.length ++ (q.flatMap signBy ++ (groupsL t ++ (if t ≠ 0 then signBy x else []))), 0) := by
    unfold sgs1 bySig
    simp only [List.append_assoc]
    exact readN_back z 64 _ (by omega) h1
  have e2 : sgs2 (bySig ⟨z, q, t, x⟩) = (q.length, q.flatMap signBy ++ (groupsL t ++ (if t ≠ 0 then signBy x else [])), 0) := by
    unfold sgs2; rw [e1]; exact readN_back _ 4096 _ (by omega) h2
  have e3 : sgs3 (bySig ⟨z, q, t, x⟩) = (q, groupsL t ++ (if t ≠ 0 then signBy x else []), 0) := by
    unfold sgs3; rw [e2]
    have := readSgs_back q [] (groupsL t ++ (if t ≠ 0 then signBy x else [])) h4
    rwa [List.nil_append] at this
  have e4 : sgs4 (bySig ⟨z, q, t, x⟩) = (t, (if t ≠ 0 then signBy x else []), 0) := by
    unfold sgs4; rw [e3]; exact readN_back _ 63 _ (by omega) h3
  have e5 : sgs5 (bySig ⟨z, q, t, x⟩) = (x, [], 0) := by
    unfold sgs5 readLast; rw [e4]
    simp only
    by_cases ht : t ≠ 0
    · rw [if_pos ht, if_pos ht]
      have := readSg_back x [] h5
      rwa [List.append_nil] at this
    · rw [if_neg ht, if_neg ht, h6 (by omega)]
  unfold readSig
  rw [e1, e3, e4, e5]
end Go.Proofs.Ytobgbheodlpclaa
/-
  A sign that stands where a reader does: block.readSign.
-/
namespace Go.Proofs.Ytobgbheodlpclaa
open Go.RowKit
set_option maxRecDepth 100000

set_option maxHeartbeats 8000000 in
theorem readSign_any (b e : Nat) (l : List UInt8) (w : World) (h : IsR w b l e) (hl : l.length ≤ 1000000) :
    Calls Try.prog 111 #[.pointer (some ⟨b, 0, none⟩)] w fun en w' => en = .returned (.agg (readSg l e).1.cells) ∧ IsR w' b (readSg l e).2.1 (readSg l e).2.2 ∧ w.grownBy w' (some b) ∧ Below b w w' := by
  have hb := h.lt
  have hrow := World.alloc_heap_new w (Obj.cells #[.int .u32 0, .int .u64 0, .int .u64 0] 30)
  have hb0 : Below w.heap.size w (w.alloc (.cells #[.int .u32 0, .int .u64 0, .int .u64 0] 30)) := (Below.refl _ w).alloc (Nat.le_refl _) _
  have HI0 := hide (readNum_any b 4294967295 e l _ (h.keep (hb0.mono hb)) hl)
  have hlen := readN_len2 l e 4294967295
  have hle := readN_le l e 4294967295
  obtain ⟨K, HK⟩ : ∃ K, K = readSg l e := ⟨_, rfl⟩
  rw [← HK]
  unfold readSg at HK
  generalize readN l e 4294967295 = r at HI0 hlen hle HK
  obtain ⟨m, l1, e1⟩ := r
  simp only at HI0 hlen hle HK
  have HB0 := hide hb0
  have u1 : IntKind.u32.wrap (m : Int) = (m : Int) := by rw [IntKind.wrap_u32]; omega
  clear hb0 h
  have HT := hide (fun W (hI : IsR W b l1 e1) => readSum_any b e1 l1 W hI (by omega))
  subst HK
  simp only
  generalize readS l1 e1 = q at HT ⊢
  obtain ⟨⟨p1, p2⟩, l2, e2⟩ := q
  simp only [sumV] at HT ⊢
  go_enter Try.func111, Try.ntmps111
  go_wp2_with fail
  refine HI0.out.mono ?_
  rintro en w1 ⟨rfl, h2, h3, h4⟩
  have s1 := (h3.block w.heap.size (by simp) (fun e => by injection e; omega)).trans hrow
  have HG := hide (show w.grownBy w1 (some b) ∧ Below b w w1 from ⟨⟨h4.os.trans HB0.out.os, h4.tape.trans HB0.out.tape, h4.output.trans HB0.out.output, Nat.le_trans HB0.out.size h3.size, fun k hk hkb => (h3.block k (by simp; omega) hkb).trans (HB0.out.block k hk)⟩, (HB0.out.mono (Nat.le_of_lt hb)).trans h4⟩)
  have HT2 := hide (HT.out w1 h2)
  clear HI0 HT h2 h3 h4 HB0 hrow
  go_wp2_with fail
  refine HT2.out.mono ?_
  rintro en w2 ⟨rfl, h2, h3, h4⟩
  have s2 := (h3.block w.heap.size (Array.getElem?_eq_some_iff.1 s1).1 (fun e => by injection e; omega)).trans s1
  have HG2 := hide (show w.grownBy w2 (some b) ∧ Below b w w2 from ⟨grown_two HG.out.1 h3, HG.out.2.trans h4⟩)
  have HI2 := hide h2
  clear HT2 h2 h3 h4 HG s1
  have z0 : w2.frozen? ⟨w.heap.size, 0, none⟩ = false := frozen_of_row _ _ _ _ _ s2
  have z1 : w2.frozen? ⟨w.heap.size, 1, none⟩ = false := frozen_of_row _ _ _ _ _ s2
  have z2 : w2.frozen? ⟨w.heap.size, 2, none⟩ = false := frozen_of_row _ _ _ _ _ s2
  have k0 : w2.cell? ⟨w.heap.size, 0, none⟩ = some (.int .u32 0) := cell_of_row _ _ _ _ _ _ s2
  have k1 : w2.cell? ⟨w.heap.size, 1, none⟩ = some (.int .u64 0) := cell_of_row _ _ _ _ _ _ s2
  have k2 : w2.cell? ⟨w.heap.size, 2, none⟩ = some (.int .u64 0) := cell_of_row _ _ _ _ _ _ s2
  have HX := hide (row_sign w2 w.heap.size _ _ _ (.int .u32 (m : Nat)) (.int .u64 (p1 : Nat)) (.int .u64 (p2 : Nat)) _ s2)
  have HY := hide (three_keep HI2.out HG2.out.1 HG2.out.2 (Nat.le_refl _) hb (.int .u32 (m : Nat)) (.int .u64 (p1 : Nat)) (.int .u64 (p2 : Nat)))
  clear HG2 HI2 s2
  go_wp2_with fail
  obtain ⟨y0, y1, y2⟩ := HX.out
  refine bodyPost_ret (v := .agg #[.int .u32 (m : Nat), .int .u64 (p1 : Nat), .int .u64 (p2 : Nat)]) (by simp [results, Try.results111, go_sem, y0, y1, y2]) rfl ⟨rfl, HY.out⟩
end Go.Proofs.Ytobgbheodlpclaa
