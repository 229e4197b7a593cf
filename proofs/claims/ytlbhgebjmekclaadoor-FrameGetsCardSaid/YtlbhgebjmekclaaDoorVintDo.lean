/-
  vint's reader: do, with what reads a text and what reads a sum; do behind an error; Left.
-/
import Derived.Test.YtlbhgebjmekclaaDoorVintRead
namespace Go.Proofs.YtlbhgebjmekclaaDoor
open Go.RowKit
set_option maxRecDepth 100000

/-- What do leaves behind a reading: n bytes fewer, the error er. -/
def DoPost (b n er : Nat) (l : List UInt8) (w2 : World) (en : Ending) (w' : World) : Prop :=
  (∃ v, en = .returned v) ∧ IsR w' b (l.drop n) er ∧ Below b w2 w' ∧ (∀ k, k ≠ b → w'.heap[k]? = w2.heap[k]?)

set_option maxHeartbeats 4000000 in
theorem doText_ok (b n er : Nat) (l : List UInt8) (w w2 : World) (p q : Value) (h : IsR w b l 0) (hn : n ≤ l.length) (hb2 : w2.heap[b]? = w.heap[b]?) (hB : Below b w w2)
    (hcall : ∀ A c, l.length ≤ c → RdB w b A l → Calls Tryd.prog 55 #[.slice A l.length c, p, q] w fun en w' => en = .returned (.tuple #[.int .i64 n, .int .i64 er]) ∧ w' = w2) :
    Calls Tryd.prog 52 #[.pointer (some ⟨b, 0, none⟩), .func (.func 55) #[] #[p, q]] w (DoPost b n er l w2) := by
  go_enter Tryd.func52, Tryd.ntmps52
  go_wp2_with fail
  refine (state_any b 0 l w h).mono ?_
  rintro en w1 ⟨rfl, rfl⟩
  obtain ⟨A, c, h1, h2, h3⟩ := h
  have hbl : b < w1.heap.size := (Array.getElem?_eq_some_iff.1 h1).1
  have cc : w1.cell? ⟨b, 1, none⟩ = some (.slice A l.length c) := cell_of_row _ _ _ _ _ _ h1
  have hC := hcall A c h2 h3
  have hd := (h3.below hB (Nat.le_refl _)).drop (k := n) h2
  have i1 := hb2.trans h1
  go_wp2_with fail
  refine hC.mono ?_
  clear hC hcall cc h1 h3 hb2
  rintro en w3 ⟨rfl, rfl⟩
  have c1 : w3.cell? ⟨b, 1, none⟩ = some (.slice A l.length c) := cell_of_row _ _ _ _ _ _ i1
  have c2 : w3.cell? ⟨b, 2, none⟩ = some (.int .i64 0) := cell_of_row _ _ _ _ _ _ i1
  have z1 : w3.frozen? ⟨b, 1, none⟩ = false := frozen_of_row _ _ _ _ _ i1
  have z2 : w3.frozen? ⟨b, 2, none⟩ = false := frozen_of_row _ _ _ _ _ i1
  have fi1 : (n : Int) ≤ l.length := by omega
  have fi2 : (l.length : Int) ≤ c := by omega
  have ln : (l.drop n).length = l.length - n := by simp
  have lc : (l.drop n).length ≤ c - n := by omega
  by_cases hcz : c = n
  · rw [if_pos hcz] at hd
    have HS := isR_set w3 b er A (c - n) (l.drop n) _ i1 lc hd
    rw [ln, show c - n = 0 by omega] at HS
    have HS2 := hide HS
    clear HS ln lc
    go_wp2_with fail
    refine bodyPost_end (v := .tuple #[]) (by simp [results, Tryd.results52, go_sem]) rfl ⟨⟨_, rfl⟩, HS2.out.1, HS2.out.2.1, HS2.out.2.2⟩
  · rw [if_neg hcz] at hd
    have HS := isR_set w3 b er (A.map (·.add n)) (c - n) (l.drop n) _ i1 lc hd
    rw [ln] at HS
    have HS2 := hide HS
    clear HS ln lc
    go_wp2_with fail
    refine bodyPost_end (v := .tuple #[]) (by simp [results, Tryd.results52, go_sem]) rfl ⟨⟨_, rfl⟩, HS2.out.1, HS2.out.2.1, HS2.out.2.2⟩

set_option maxHeartbeats 1000000 in
theorem do_err (b e : Nat) (l : List UInt8) (w : World) (fv : Value) (h : IsR w b l e) (he : e ≠ 0) :
    Calls Tryd.prog 52 #[.pointer (some ⟨b, 0, none⟩), fv] w fun en w' => (∃ v, en = .returned v) ∧ w' = w := by
  go_enter Tryd.func52, Tryd.ntmps52
  go_wp2_with fail
  refine (state_any b e l w h).mono ?_
  rintro en w1 ⟨rfl, rfl⟩
  have E1 : ((e : Int) != 0) = true := by rw [bne_iff_ne]; omega
  clear he
  go_wp2_with fail
  refine bodyPost_ret (v := .tuple #[]) (by simp [results, Tryd.results52, go_sem]) rfl ⟨⟨_, rfl⟩, rfl⟩
end Go.Proofs.YtlbhgebjmekclaaDoor
