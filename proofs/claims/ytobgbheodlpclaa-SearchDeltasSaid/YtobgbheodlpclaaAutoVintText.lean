/-
  Texts that belong together: VintDo, VintReads, VintText.
-/
import Derived.Test.YtobgbheodlpclaaVintRead
import Derived.Laws.BitsLemmas
/-
  vint's reader: do, with what reads a text and what reads a sum; do behind an error; Left.
-/
namespace Go.Proofs.Ytobgbheodlpclaa
open Go.RowKit
set_option maxRecDepth 100000

/-- What do leaves behind a reading: n bytes fewer, the error er. -/
def DoPost (b n er : Nat) (l : List UInt8) (w2 : World) (en : Ending) (w' : World) : Prop :=
  (∃ v, en = .returned v) ∧ IsR w' b (l.drop n) er ∧ Below b w2 w' ∧ (∀ k, k ≠ b → w'.heap[k]? = w2.heap[k]?)

set_option maxHeartbeats 4000000 in
theorem doText_ok (b n er : Nat) (l : List UInt8) (w w2 : World) (p q : Value) (h : IsR w b l 0) (hn : n ≤ l.length) (hb2 : w2.heap[b]? = w.heap[b]?) (hB : Below b w w2)
    (hcall : ∀ A c, l.length ≤ c → RdB w b A l → Calls Try.prog 137 #[.slice A l.length c, p, q] w fun en w' => en = .returned (.tuple #[.int .i64 n, .int .i64 er]) ∧ w' = w2) :
    Calls Try.prog 136 #[.pointer (some ⟨b, 0, none⟩), .func (.func 137) #[] #[p, q]] w (DoPost b n er l w2) := by
  go_enter Try.func136, Try.ntmps136
  go_wp2_with fail
  refine (state_any b 0 l w h).mono ?_
  rintro en w1 ⟨rfl, rfl⟩
  obtain ⟨A, c, h1, h2, h3⟩ := h
  have hbl : b < w1.heap.size := (Array.getElem?_eq_some_iff.1 h1).1
  have cc : w1.cell? ⟨b, 1, none⟩ = some (.slice A l.length c) := cell_of_row _ _ _ _ _ _ h1
  have hC := hcall A c h2 h3
  have hd := (h3.below hB (Nat.le_refl _)).drop (k := n) h2
  have i1 := hb2.trans h1
  go_wp2_with fail
  refine hC.mono ?_
  clear hC hcall cc h1 h3 hb2
  rintro en w3 ⟨rfl, rfl⟩
  have c1 : w3.cell? ⟨b, 1, none⟩ = some (.slice A l.length c) := cell_of_row _ _ _ _ _ _ i1
  have c2 : w3.cell? ⟨b, 2, none⟩ = some (.int .i64 0) := cell_of_row _ _ _ _ _ _ i1
  have z1 : w3.frozen? ⟨b, 1, none⟩ = false := frozen_of_row _ _ _ _ _ i1
  have z2 : w3.frozen? ⟨b, 2, none⟩ = false := frozen_of_row _ _ _ _ _ i1
  have fi1 : (n : Int) ≤ l.length := by omega
  have fi2 : (l.length : Int) ≤ c := by omega
  have ln : (l.drop n).length = l.length - n := by simp
  have lc : (l.drop n).length ≤ c - n := by omega
  by_cases hcz : c = n
  · rw [if_pos hcz] at hd
    have HS := isR_set w3 b er A (c - n) (l.drop n) _ i1 lc hd
    rw [ln, show c - n = 0 by omega] at HS
    have HS2 := hide HS
    clear HS ln lc
    go_wp2_with fail
    refine bodyPost_end (v := .tuple #[]) (by simp [results, Try.results136, go_sem]) rfl ⟨⟨_, rfl⟩, HS2.out.1, HS2.out.2.1, HS2.out.2.2⟩
  · rw [if_neg hcz] at hd
    have HS := isR_set w3 b er (A.map (·.add n)) (c - n) (l.drop n) _ i1 lc hd
    rw [ln] at HS
    have HS2 := hide HS
    clear HS ln lc
    go_wp2_with fail
    refine bodyPost_end (v := .tuple #[]) (by simp [results, Try.results136, go_sem]) rfl ⟨⟨_, rfl⟩, HS2.out.1, HS2.out.2.1, HS2.out.2.2⟩

set_option maxHeartbeats 4000000 in
theorem doSum_ok (b n er : Nat) (l : List UInt8) (w w2 : World) (p : Value) (h : IsR w b l 0) (hn : n ≤ l.length) (hb2 : w2.heap[b]? = w.heap[b]?) (hB : Below b w w2)
    (hcall : ∀ A c, l.length ≤ c → RdB w b A l → Calls Try.prog 147 #[.slice A l.length c, p] w fun en w' => en = .returned (.tuple #[.int .i64 n, .int .i64 er]) ∧ w' = w2) :
    Calls Try.prog 136 #[.pointer (some ⟨b, 0, none⟩), .func (.func 147) #[] #[p]] w (DoPost b n er l w2) := by
  go_enter Try.func136, Try.ntmps136
  go_wp2_with fail
  refine (state_any b 0 l w h).mono ?_
  rintro en w1 ⟨rfl, rfl⟩
  obtain ⟨A, c, h1, h2, h3⟩ := h
  have hbl : b < w1.heap.size := (Array.getElem?_eq_some_iff.1 h1).1
  have cc : w1.cell? ⟨b, 1, none⟩ = some (.slice A l.length c) := cell_of_row _ _ _ _ _ _ h1
  have hC := hcall A c h2 h3
  have hd := (h3.below hB (Nat.le_refl _)).drop (k := n) h2
  have i1 := hb2.trans h1
  go_wp2_with fail
  refine hC.mono ?_
  clear hC hcall cc h1 h3 hb2
  rintro en w3 ⟨rfl, rfl⟩
  have c1 : w3.cell? ⟨b, 1, none⟩ = some (.slice A l.length c) := cell_of_row _ _ _ _ _ _ i1
  have c2 : w3.cell? ⟨b, 2, none⟩ = some (.int .i64 0) := cell_of_row _ _ _ _ _ _ i1
  have z1 : w3.frozen? ⟨b, 1, none⟩ = false := frozen_of_row _ _ _ _ _ i1
  have z2 : w3.frozen? ⟨b, 2, none⟩ = false := frozen_of_row _ _ _ _ _ i1
  have fi1 : (n : Int) ≤ l.length := by omega
  have fi2 : (l.length : Int) ≤ c := by omega
  have ln : (l.drop n).length = l.length - n := by simp
  have lc : (l.drop n).length ≤ c - n := by omega
  by_cases hcz : c = n
  · rw [if_pos hcz] at hd
    have HS := isR_set w3 b er A (c - n) (l.drop n) _ i1 lc hd
    rw [ln, show c - n = 0 by omega] at HS
    have HS2 := hide HS
    clear HS ln lc
    go_wp2_with fail
    refine bodyPost_end (v := .tuple #[]) (by simp [results, Try.results136, go_sem]) rfl ⟨⟨_, rfl⟩, HS2.out.1, HS2.out.2.1, HS2.out.2.2⟩
  · rw [if_neg hcz] at hd
    have HS := isR_set w3 b er (A.map (·.add n)) (c - n) (l.drop n) _ i1 lc hd
    rw [ln] at HS
    have HS2 := hide HS
    clear HS ln lc
    go_wp2_with fail
    refine bodyPost_end (v := .tuple #[]) (by simp [results, Try.results136, go_sem]) rfl ⟨⟨_, rfl⟩, HS2.out.1, HS2.out.2.1, HS2.out.2.2⟩

set_option maxHeartbeats 1000000 in
theorem do_err (b e : Nat) (l : List UInt8) (w : World) (fv : Value) (h : IsR w b l e) (he : e ≠ 0) :
    Calls Try.prog 136 #[.pointer (some ⟨b, 0, none⟩), fv] w fun en w' => (∃ v, en = .returned v) ∧ w' = w := by
  go_enter Try.func136, Try.ntmps136
  go_wp2_with fail
  refine (state_any b e l w h).mono ?_
  rintro en w1 ⟨rfl, rfl⟩
  have E1 : ((e : Int) != 0) = true := by rw [bne_iff_ne]; omega
  clear he
  go_wp2_with fail
  refine bodyPost_ret (v := .tuple #[]) (by simp [results, Try.results136, go_sem]) rfl ⟨⟨_, rfl⟩, rfl⟩

/-- How many bytes are left, where there is no error. -/
def leftN (e : Nat) (l : List UInt8) : Nat := if e ≠ 0 then 0 else l.length
theorem left_any (b e : Nat) (l : List UInt8) (w : World) (h : IsR w b l e) :
    Calls Try.prog 87 #[.pointer (some ⟨b, 0, none⟩)] w fun en w' => en = .returned (.int .i64 ((leftN e l : Nat) : Int)) ∧ w' = w := by
  have h0 := h
  obtain ⟨A, c, h1, h2, h3⟩ := h
  have c1 : w.cell? ⟨b, 1, none⟩ = some (.slice A l.length c) := cell_of_row _ _ _ _ _ _ h1
  clear h1
  go_enter Try.func87, Try.ntmps87
  go_wp2_with fail
  refine (state_any b e l w h0).mono ?_
  rintro en w1 ⟨rfl, rfl⟩
  by_cases he : e = 0
  · have E1 : ((e : Int) != 0) = false := by rw [he]; rfl
    have HE := hide he
    clear he
    go_wp2_with fail
    refine bodyPost_ret (results_tmp rfl _ _ _) rfl ⟨by unfold leftN; rw [if_neg (by rw [HE.out]; simp)]; rfl, rfl⟩
  · have E1 : ((e : Int) != 0) = true := by rw [bne_iff_ne]; omega
    have HE := hide he
    clear he
    go_wp2_with fail
    refine bodyPost_ret (results_tmp rfl _ _ _) rfl ⟨by unfold leftN; rw [if_pos HE.out]; rfl, rfl⟩
end Go.Proofs.Ytobgbheodlpclaa
/-
  vint's reader: half; the closures of Text and Sum.
-/
namespace Go.Proofs.Ytobgbheodlpclaa
open Go.RowKit
set_option maxRecDepth 100000

/-- The number of the first k bytes, the greatest first. -/
def halfF (l : List UInt8) : Nat → Nat
  | 0 => 0
  | k + 1 => halfF l k * 256 + (l.getD k 0).toNat
def halfN (l : List UInt8) : Nat := halfF l 8
theorem halfF_lt (l : List UInt8) : ∀ k, halfF l k < 256 ^ k
  | 0 => by show 0 < 1; decide
  | k + 1 => by
    have h := halfF_lt l k
    have hx := (l.getD k 0).toNat_lt
    rw [Nat.pow_succ]
    show halfF l k * 256 + (l.getD k 0).toNat < _
    omega
theorem or_byte (a x : Nat) (ha : a < 72057594037927936) (hx : x < 256) :
    bits BinOp.or IntKind.u64 (IntKind.u64.wrap ((a : Int) * 2 ^ 8)) (x : Int) = ((a * 256 + x : Nat) : Int) := by
  have hw : IntKind.u64.wrap ((a : Int) * 2 ^ 8) = ((a * 256 : Nat) : Int) := by
    rw [IntKind.wrap_u64, show (2 : Int) ^ 8 = 256 by decide]; omega
  rw [hw]
  have h := bits_join .u64 64 (by decide) wraps_u64 8 ((a * 256 : Nat) : Int) (x : Int) (by omega) (by rw [show (2 : Int) ^ 8 = 256 by decide]; omega) (by rw [show (2 : Int) ^ 64 = 18446744073709551616 by decide]; omega) (by omega) (by rw [show (2 : Int) ^ 8 = 256 by decide]; omega) (by rw [show (2 : Int) ^ 64 = 18446744073709551616 by decide]; omega)
  rw [h]; simp

set_option maxHeartbeats 4000000 in
theorem readHalf_any (A : Option Addr) (l : List UInt8) (n c : Nat) (B : Nat) (w : World) (hR : RdB w B A l) (hl : 8 ≤ l.length) (hn : n = l.length) (hm : l.length ≤ 1000000) :
    Calls Try.prog 148 #[.slice A n c] w fun e w' => e = .returned (.int .u64 ((halfN l : Nat) : Int)) ∧ w' = w := by
  subst hn
  have hli : (l.length : Int) ≤ 1000000 := by omega
  have hl8 : (8 : Int) ≤ l.length := by omega
  go_enter Try.func148, Try.ntmps148
  go_wp2_with fail
  go_loopw [3, 4, 5] (fun s u i wr => ∃ k : Nat, k ≤ 8 ∧ i = .int .i64 k ∧ s = .int .u64 ((halfF l k : Nat) : Int) ∧ wr = w) (fun _ _ i _ => 8 - (intOf i).toNat)
  case atStart => exact ⟨0, by decide, rfl, rfl, rfl⟩
  case round =>
    obtain ⟨k, hk, rfl, rfl, rfl⟩ := hrel
    by_cases hlt : (k : Int) < 8
    · have hlt' : k < l.length := by omega
      have hx := List.getElem?_eq_getElem hlt'
      obtain ⟨ad, rfl, _, hc⟩ := hR k _ hx
      have hF := halfF_lt l k
      have hp : 256 ^ k ≤ 256 ^ 7 := Nat.pow_le_pow_right (by decide) (by omega)
      have HS := hide (show halfF l (k + 1) = halfF l k * 256 + (l[k]).toNat by
        show halfF l k * 256 + (l.getD k 0).toNat = _
        rw [List.getD_eq_getElem?_getD, hx]; rfl)
      generalize l[k] = x at hc HS
      have hcv : wr.cell? (ad.add k) = some (.int .u8 x.toNat) := hc
      have hx256 := x.toNat_lt
      have HV := hide (or_byte (halfF l k) x.toNat (by omega) hx256)
      have hkl : (k : Int) < l.length := by omega
      clear hc hF hp
      go_wp2_with fail
      go_roundw
      case rel => exact ⟨k + 1, by omega, rfl, by rw [HS.out, ← HV.out]; rfl, trivial⟩
      case measure => simp [intOf]; omega
    · obtain rfl : k = 8 := by omega
      go_wp2_with fail
      refine bodyPost_ret (results_tmp rfl _ _ _) rfl ⟨rfl, rfl⟩

theorem readN_le (l : List UInt8) (e m : Nat) : (readN l e m).1 ≤ m := by
  unfold readN
  split
  · exact Nat.zero_le _
  · split
    · exact Nat.zero_le _
    · split
      · exact Nat.zero_le _
      · show (numL l).1 ≤ m; omega
set_option maxHeartbeats 1000000 in
theorem readInt_any (b e : Nat) (most : Int) (l : List UInt8) (w : World) (h : IsR w b l e) (hl : l.length ≤ 1000000) (hm : most ≤ 9223372036854775807) :
    Calls Try.prog 110 #[.pointer (some ⟨b, 0, none⟩), .int .i64 most] w fun en w' =>
      en = .returned (.int .i64 ((readN l e most.toNat).1 : Nat)) ∧ IsR w' b (readN l e most.toNat).2.1 (readN l e most.toNat).2.2 ∧ w.grownBy w' (some b) ∧ Below b w w' := by
  have hN := readNum_any b most.toNat e l w h hl
  have hle := readN_le l e most.toNat
  generalize readN l e most.toNat = r at hN hle ⊢
  have h1 : ((most.toNat : Nat) : Int) = max most 0 := by omega
  rw [h1] at hN
  have hr : (r.1 : Int) ≤ 9223372036854775807 := by omega
  clear h1 hle
  go_enter Try.func110, Try.ntmps110
  go_wp2_with fail
  refine hN.mono ?_
  rintro en w1 ⟨rfl, h2, h3, h4⟩
  go_wp2_with fail
  refine bodyPost_ret (results_tmp rfl _ _ _) rfl ⟨rfl, h2, h3, h4⟩

theorem RdB.take {w : World} {B : Nat} {A : Option Addr} {l : List UInt8} (h : RdB w B A l) (n : Nat) : RdB w B A (l.take n) := fun k x hx => by
  rw [List.getElem?_take] at hx
  split at hx
  · exact h k x hx
  · cases hx
set_option maxHeartbeats 1000000 in
theorem text1_short (A : Option Addr) (l : List UInt8) (c n : Nat) (q : Value) (bn : Nat) (w : World) (hm : w.cell? ⟨bn, 0, none⟩ = some (.int .i64 n)) (hn : l.length < n) :
    Calls Try.prog 137 #[.slice A l.length c, .pointer (some ⟨bn, 0, none⟩), q] w fun en w' => en = .returned (.tuple #[.int .i64 ((0 : Nat) : Int), .int .i64 ((4 : Nat) : Int)]) ∧ w' = w := by
  have hn2 : (l.length : Int) < n := by omega
  go_enter Try.func137, Try.ntmps137
  go_wp2_with fail
  refine bodyPost_ret (results_tmp2 rfl _ _ _) rfl ⟨rfl, rfl⟩
set_option maxHeartbeats 1000000 in
theorem text1_ok (A : Option Addr) (l : List UInt8) (c n bn bo : Nat) (w : World) (hR : RdB w w.heap.size A l) (hc : l.length ≤ c) (hm : w.heap[bn]? = some (.cells #[.int .i64 n] 3 (0, 0))) (ho : w.heap[bo]? = some (.cells #[.string ⟨#[]⟩] 9 (0, 0))) (hne : bn ≠ bo) (hn : n ≤ l.length) :
    Calls Try.prog 137 #[.slice A l.length c, .pointer (some ⟨bn, 0, none⟩), .pointer (some ⟨bo, 0, none⟩)] w fun en w' => en = .returned (.tuple #[.int .i64 (n : Nat), .int .i64 ((0 : Nat) : Int)]) ∧ w' = w.setCell ⟨bo, 0, none⟩ (.string (ofL (l.take n))) := by
  have hn2 : (n : Int) ≤ l.length := by omega
  have hn3 : (n : Int) ≤ c := by omega
  have q0 : w.cell? ⟨bn, 0, none⟩ = some (.int .i64 n) := cell_of_row _ _ _ _ _ _ hm
  have q1 : w.cell? ⟨bo, 0, none⟩ = some (.string ⟨#[]⟩) := cell_of_row _ _ _ _ _ _ ho
  have q2 : w.frozen? ⟨bo, 0, none⟩ = false := frozen_of_row _ _ _ _ _ ho
  have q3 : (w.setCell ⟨bo, 0, none⟩ (.string (ofL (l.take n)))).cell? ⟨bn, 0, none⟩ = some (.int .i64 n) := cell_of_row _ _ _ _ _ _ ((Below.heap_setCell _ _ _ _ hne).trans hm)
  have hcv := conv_any (hR.take n) c
  rw [List.length_take, Nat.min_eq_left hn] at hcv
  clear hm ho
  go_enter Try.func137, Try.ntmps137
  go_wp2_with fail
  refine bodyPost_ret (results_tmp2 rfl _ _ _) rfl ⟨rfl, rfl⟩
end Go.Proofs.Ytobgbheodlpclaa
/-
  vint's reader: Text.
-/
namespace Go.Proofs.Ytobgbheodlpclaa
open Go.RowKit
set_option maxRecDepth 100000

/-- What a text's reading leaves behind its number's: the text, what is left, the error. -/
def textOf (r : Nat × List UInt8 × Nat) : List UInt8 × List UInt8 × Nat :=
  if r.2.2 ≠ 0 then ([], r.2.1, r.2.2) else if r.2.1.length < r.1 then ([], r.2.1, 4) else (r.2.1.take r.1, r.2.1.drop r.1, 0)
def readT (l : List UInt8) (e m : Nat) : List UInt8 × List UInt8 × Nat := textOf (readN l e m)
theorem grown_do {w w1 w2 w' : World} {b : Nat} (h3 : w.grownBy w1 (some b)) (hB : Below w1.heap.size w1 w2) (hB' : Below b w2 w') (hk : ∀ k, k ≠ b → w'.heap[k]? = w2.heap[k]?) : w.grownBy w' (some b) :=
  ⟨hB'.os.trans (hB.os.trans h3.os), hB'.tape.trans (hB.tape.trans h3.tape), hB'.output.trans (hB.output.trans h3.output), Nat.le_trans h3.size (Nat.le_trans hB.size hB'.size),
    fun k hlt hkb => (hk k (fun e => hkb (by rw [e]))).trans ((hB.block k (Nat.lt_of_lt_of_le hlt h3.size)).trans (h3.block k hlt hkb))⟩
theorem readN_len2 (l : List UInt8) (e most : Nat) : (readN l e most).2.1.length ≤ l.length := by
  unfold readN
  split
  · exact Nat.le_refl _
  · split
    · exact Nat.le_refl _
    · split
      · exact Nat.le_refl _
      · simp

set_option maxHeartbeats 2000000 in
theorem readText_any (b e : Nat) (most : Int) (l : List UInt8) (w : World) (h : IsR w b l e) (hl : l.length ≤ 1000000) (hm : most ≤ 9223372036854775807) :
    Calls Try.prog 115 #[.pointer (some ⟨b, 0, none⟩), .int .i64 most] w fun en w' =>
      en = .returned (.string (ofL (readT l e most.toNat).1)) ∧ IsR w' b (readT l e most.toNat).2.1 (readT l e most.toNat).2.2 ∧ w.grownBy w' (some b) ∧ Below b w w' := by
  have hI := readInt_any b e most l w h hl hm
  have hlen := readN_len2 l e most.toNat
  have hle := readN_le l e most.toNat
  unfold readT
  generalize readN l e most.toNat = r at hI hlen hle ⊢
  obtain ⟨n, l', e'⟩ := r
  simp only at hI hlen hle
  have hr : (n : Int) ≤ 9223372036854775807 := by omega
  have hl2 : l'.length ≤ 1000000 := by omega
  clear hlen hle hl
  go_enter Try.func115, Try.ntmps115
  go_wp2_with fail
  refine hI.mono ?_
  clear hI
  rintro en w1 ⟨rfl, h2, h3, h4⟩
  go_wp2_with fail
  have hb1 := h2.lt
  have hB : Below w1.heap.size w1 ((w1.alloc (.cells #[.int .i64 n] 3)).alloc (.cells #[.string ⟨#[]⟩] 9)) := ((Below.refl _ w1).alloc (Nat.le_refl _) _).alloc (by simp) _
  have r0 : ((w1.alloc (.cells #[.int .i64 n] 3)).alloc (.cells #[.string ⟨#[]⟩] 9)).heap[w1.heap.size]? = some (.cells #[.int .i64 n] 3 (0, 0)) := by
    rw [Below.heap_alloc _ _ _ (by simp)]
    exact World.alloc_heap_new _ _
  have r1 : ((w1.alloc (.cells #[.int .i64 n] 3)).alloc (.cells #[.string ⟨#[]⟩] 9)).heap[w1.heap.size + 1]? = some (.cells #[.string ⟨#[]⟩] 9 (0, 0)) := by
    have h := World.alloc_heap_new (w1.alloc (.cells #[.int .i64 n] 3)) (Obj.cells #[.string ⟨#[]⟩] 9)
    simp only [World.size_alloc] at h
    exact h
  have hz : ((w1.alloc (.cells #[.int .i64 n] 3)).alloc (.cells #[.string ⟨#[]⟩] 9)).heap.size = w1.heap.size + 2 := by simp
  generalize ((w1.alloc (.cells #[.int .i64 n] 3)).alloc (.cells #[.string ⟨#[]⟩] 9)) = w2 at hB r0 r1 hz ⊢
  have hR1 := h2.keep (hB.mono (show b + 1 ≤ w1.heap.size by omega))
  have hB0 := h4.trans (hB.mono (by omega))
  by_cases he : e' = 0
  · subst he
    by_cases hs : l'.length < n
    · have HN := hide (show textOf (n, l', 0) = ([], l', 4) by unfold textOf; rw [if_neg (by simp), if_pos hs])
      refine (doText_ok b 0 4 l' w2 w2 _ _ hR1 (Nat.zero_le _) rfl (Below.refl _ _) (fun A c _ hR => text1_short A l' c n _ w1.heap.size w2 (cell_of_row _ _ _ _ _ _ r0) hs)).mono ?_
      rintro en w3 ⟨⟨v, rfl⟩, g1, g2, g3⟩
      have c2 : w3.cell? ⟨w1.heap.size + 1, 0, none⟩ = some (.string ⟨#[]⟩) := cell_of_row _ _ _ _ _ _ ((g3 _ (by omega)).trans r1)
      have HG := hide (grown_do h3 hB g2 g3)
      have hBB := hB0.trans g2
      clear g3 hB hs
      go_wp2_with fail
      refine bodyPost_ret (results_tmp rfl _ _ _) rfl ⟨by rw [HN.out]; rfl, by rw [HN.out]; exact g1, HG.out, hBB⟩
    · have HN := hide (show textOf (n, l', 0) = (l'.take n, l'.drop n, 0) by unfold textOf; rw [if_neg (by simp), if_neg hs])
      have hBs : Below w1.heap.size w2 (w2.setCell ⟨w1.heap.size + 1, 0, none⟩ (.string (ofL (l'.take n)))) := (Below.refl _ w2).setCell (p := ⟨w1.heap.size + 1, 0, none⟩) (by show w1.heap.size ≤ w1.heap.size + 1; omega) _
      refine (doText_ok b n 0 l' w2 _ _ _ hR1 (by omega) (Below.heap_setCell _ _ _ _ (by show b ≠ w1.heap.size + 1; omega)) (hBs.mono (by omega)) (fun A c hc hR => text1_ok A l' c n w1.heap.size (w1.heap.size + 1) w2 (hR.mono (by omega)) hc r0 r1 (by omega) (by omega))).mono ?_
      rintro en w3 ⟨⟨v, rfl⟩, g1, g2, g3⟩
      have c2 : w3.cell? ⟨w1.heap.size + 1, 0, none⟩ = some (.string (ofL (l'.take n))) := cell_of_row _ _ _ _ _ _ ((g3 _ (by omega)).trans (heap_setCell_same _ _ 0 _ _ _ r1))
      have HG := hide (grown_do h3 (hB.trans hBs) g2 g3)
      have hBB := (hB0.trans (hBs.mono (by omega))).trans g2
      clear g3 g2 hB hBs hs
      go_wp2_with fail
      refine bodyPost_ret (results_tmp rfl _ _ _) rfl ⟨by rw [HN.out]; rfl, by rw [HN.out]; exact g1, HG.out, hBB⟩
  · have HN := hide (show textOf (n, l', e') = ([], l', e') by unfold textOf; rw [if_pos he])
    refine (do_err b e' l' w2 _ hR1 he).mono ?_
    rintro en w3 ⟨⟨v, rfl⟩, rfl⟩
    have c2 : w3.cell? ⟨w1.heap.size + 1, 0, none⟩ = some (.string ⟨#[]⟩) := cell_of_row _ _ _ _ _ _ r1
    have HG := hide (grown_do h3 hB (Below.refl b w3) (fun _ _ => rfl))
    clear hB he
    go_wp2_with fail
    refine bodyPost_ret (results_tmp rfl _ _ _) rfl ⟨by rw [HN.out]; rfl, by rw [HN.out]; exact hR1, HG.out, hB0⟩
end Go.Proofs.Ytobgbheodlpclaa
