/-
  vint's reader: do, with what reads a text and what reads a sum; do behind an error; Left.
-/
import Derived.Test.YtdkdnfcmlnfkcaaVintRead
namespace Go.Proofs.Ytdkdnfcmlnfkcaa
open Go.RowKit
set_option maxRecDepth 100000

/-- What do leaves behind a reading: n bytes fewer, the error er. -/
def DoPost (b n er : Nat) (l : List UInt8) (w2 : World) (en : Ending) (w' : World) : Prop :=
  (∃ v, en = .returned v) ∧ IsR w' b (l.drop n) er ∧ Below b w2 w' ∧ (∀ k, k ≠ b → w'.heap[k]? = w2.heap[k]?)

set_option maxHeartbeats 4000000 in
theorem doText_ok (b n er : Nat) (l : List UInt8) (w w2 : World) (p q : Value) (h : IsR w b l 0) (hn : n ≤ l.length) (hb2 : w2.heap[b]? = w.heap[b]?) (hB : Below b w w2)
    (hcall : ∀ A c, l.length ≤ c → RdB w b A l → Calls Try.prog 137 #[.slice A l.length c, p, q] w fun en w' => en = .returned (.tuple #[.int .i64 n, .int .i64 er]) ∧ w' = w2) :
    Calls Try.prog 136 #[.pointer (some ⟨b, 0, none⟩), .func (.func 137) #[] #[p, q]] w (DoPost b n er l w2) := by
  go_enter Try.func136, Try.ntmps136
  go_wp2_with fail
  refine (state_any b 0 l w h).mono ?_
  rintro en w1 ⟨rfl, rfl⟩
  obtain ⟨A, c, h1, h2, h3⟩ := h
  have hbl : b < w1.heap.size := (Array.getElem?_eq_some_iff.1 h1).1
  have cc : w1.cell? ⟨b, 1, none⟩ = some (.slice A l.length c) := cell_of_row _ _ _ _ _ _ h1
  have hC := hcall A c h2 h3
  have hd := (h3.below hB (Nat.le_refl _)).drop (k := n) h2
  have i1 := hb2.trans h1
  go_wp2_with fail
  refine hC.mono ?_
  clear hC hcall cc h1 h3 hb2
  rintro en w3 ⟨rfl, rfl⟩
  have c1 : w3.cell? ⟨b, 1, none⟩ = some (.slice A l.length c) := cell_of_row _ _ _ _ _ _ i1
  have c2 : w3.cell? ⟨b, 2, none⟩ = some (.int .i64 0) := cell_of_row _ _ _ _ _ _ i1
  have z1 : w3.frozen? ⟨b, 1, none⟩ = false := frozen_of_row _ _ _ _ _ i1
  have z2 : w3.frozen? ⟨b, 2, none⟩ = false := frozen_of_row _ _ _ _ _ i1
  have fi1 : (n : Int) ≤ l.length := by omega
  have fi2 : (l.length : Int) ≤ c := by omega
  have ln : (l.drop n).length = l.length - n := by simp
  have lc : (l.drop n).length ≤ c - n := by omega
  by_cases hcz : c = n
  · rw [if_pos hcz] at hd
    have HS := isR_set w3 b er A (c - n) (l.drop n) _ i1 lc hd
    rw [ln, show c - n = 0 by omega] at HS
    have HS2 := hide HS
    clear HS ln lc
    go_wp2_with fail
    refine bodyPost_end (v := .tuple #[]) (by simp [results, Try.results136, go_sem]) rfl ⟨⟨_, rfl⟩, HS2.out.1, HS2.out.2.1, HS2.out.2.2⟩
  · rw [if_neg hcz] at hd
    have HS := isR_set w3 b er (A.map (·.add n)) (c - n) (l.drop n) _ i1 lc hd
    rw [ln] at HS
    have HS2 := hide HS
    clear HS ln lc
    go_wp2_with fail
    refine bodyPost_end (v := .tuple #[]) (by simp [results, Try.results136, go_sem]) rfl ⟨⟨_, rfl⟩, HS2.out.1, HS2.out.2.1, HS2.out.2.2⟩

set_option maxHeartbeats 4000000 in
theorem doSum_ok (b n er : Nat) (l : List UInt8) (w w2 : World) (p : Value) (h : IsR w b l 0) (hn : n ≤ l.length) (hb2 : w2.heap[b]? = w.heap[b]?) (hB : Below b w w2)
    (hcall : ∀ A c, l.length ≤ c → RdB w b A l → Calls Try.prog 147 #[.slice A l.length c, p] w fun en w' => en = .returned (.tuple #[.int .i64 n, .int .i64 er]) ∧ w' = w2) :
    Calls Try.prog 136 #[.pointer (some ⟨b, 0, none⟩), .func (.func 147) #[] #[p]] w (DoPost b n er l w2) := by
  go_enter Try.func136, Try.ntmps136
  go_wp2_with fail
  refine (state_any b 0 l w h).mono ?_
  rintro en w1 ⟨rfl, rfl⟩
  obtain ⟨A, c, h1, h2, h3⟩ := h
  have hbl : b < w1.heap.size := (Array.getElem?_eq_some_iff.1 h1).1
  have cc : w1.cell? ⟨b, 1, none⟩ = some (.slice A l.length c) := cell_of_row _ _ _ _ _ _ h1
  have hC := hcall A c h2 h3
  have hd := (h3.below hB (Nat.le_refl _)).drop (k := n) h2
  have i1 := hb2.trans h1
  go_wp2_with fail
  refine hC.mono ?_
  clear hC hcall cc h1 h3 hb2
  rintro en w3 ⟨rfl, rfl⟩
  have c1 : w3.cell? ⟨b, 1, none⟩ = some (.slice A l.length c) := cell_of_row _ _ _ _ _ _ i1
  have c2 : w3.cell? ⟨b, 2, none⟩ = some (.int .i64 0) := cell_of_row _ _ _ _ _ _ i1
  have z1 : w3.frozen? ⟨b, 1, none⟩ = false := frozen_of_row _ _ _ _ _ i1
  have z2 : w3.frozen? ⟨b, 2, none⟩ = false := frozen_of_row _ _ _ _ _ i1
  have fi1 : (n : Int) ≤ l.length := by omega
  have fi2 : (l.length : Int) ≤ c := by omega
  have ln : (l.drop n).length = l.length - n := by simp
  have lc : (l.drop n).length ≤ c - n := by omega
  by_cases hcz : c = n
  · rw [if_pos hcz] at hd
    have HS := isR_set w3 b er A (c - n) (l.drop n) _ i1 lc hd
    rw [ln, show c - n = 0 by omega] at HS
    have HS2 := hide HS
    clear HS ln lc
    go_wp2_with fail
    refine bodyPost_end (v := .tuple #[]) (by simp [results, Try.results136, go_sem]) rfl ⟨⟨_, rfl⟩, HS2.out.1, HS2.out.2.1, HS2.out.2.2⟩
  · rw [if_neg hcz] at hd
    have HS := isR_set w3 b er (A.map (·.add n)) (c - n) (l.drop n) _ i1 lc hd
    rw [ln] at HS
    have HS2 := hide HS
    clear HS ln lc
    go_wp2_with fail
    refine bodyPost_end (v := .tuple #[]) (by simp [results, Try.results136, go_sem]) rfl ⟨⟨_, rfl⟩, HS2.out.1, HS2.out.2.1, HS2.out.2.2⟩

set_option maxHeartbeats 1000000 in
theorem do_err (b e : Nat) (l : List UInt8) (w : World) (fv : Value) (h : IsR w b l e) (he : e ≠ 0) :
    Calls Try.prog 136 #[.pointer (some ⟨b, 0, none⟩), fv] w fun en w' => (∃ v, en = .returned v) ∧ w' = w := by
  go_enter Try.func136, Try.ntmps136
  go_wp2_with fail
  refine (state_any b e l w h).mono ?_
  rintro en w1 ⟨rfl, rfl⟩
  have E1 : ((e : Int) != 0) = true := by rw [bne_iff_ne]; omega
  clear he
  go_wp2_with fail
  refine bodyPost_ret (v := .tuple #[]) (by simp [results, Try.results136, go_sem]) rfl ⟨⟨_, rfl⟩, rfl⟩

/-- How many bytes are left, where there is no error. -/
def leftN (e : Nat) (l : List UInt8) : Nat := if e ≠ 0 then 0 else l.length
theorem left_any (b e : Nat) (l : List UInt8) (w : World) (h : IsR w b l e) :
    Calls Try.prog 87 #[.pointer (some ⟨b, 0, none⟩)] w fun en w' => en = .returned (.int .i64 ((leftN e l : Nat) : Int)) ∧ w' = w := by
  have h0 := h
  obtain ⟨A, c, h1, h2, h3⟩ := h
  have c1 : w.cell? ⟨b, 1, none⟩ = some (.slice A l.length c) := cell_of_row _ _ _ _ _ _ h1
  clear h1
  go_enter Try.func87, Try.ntmps87
  go_wp2_with fail
  refine (state_any b e l w h0).mono ?_
  rintro en w1 ⟨rfl, rfl⟩
  by_cases he : e = 0
  · have E1 : ((e : Int) != 0) = false := by rw [he]; rfl
    have HE := hide he
    clear he
    go_wp2_with fail
    refine bodyPost_ret (results_tmp rfl _ _ _) rfl ⟨by unfold leftN; rw [if_neg (by rw [HE.out]; simp)]; rfl, rfl⟩
  · have E1 : ((e : Int) != 0) = true := by rw [bne_iff_ne]; omega
    have HE := hide he
    clear he
    go_wp2_with fail
    refine bodyPost_ret (results_tmp rfl _ _ _) rfl ⟨by unfold leftN; rw [if_pos HE.out]; rfl, rfl⟩
end Go.Proofs.Ytdkdnfcmlnfkcaa
