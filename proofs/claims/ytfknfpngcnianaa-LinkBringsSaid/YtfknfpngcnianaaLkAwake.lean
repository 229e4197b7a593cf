/-
  awake: the page's example.
-/
import Derived.Test.YtfknfpngcnianaaLkStep
import Derived.Lib.SlBytesConst
namespace Go.Proofs.Ytfknfpngcnianaa
open Go.RowKit
set_option maxRecDepth 100000

def bytesA : List UInt8 := [97]
def bytesB : List UInt8 := [98]
/-- A link's block that was sent packets. -/
theorem one_byte_row (W : World) (x : UInt8) : RdB (W.alloc (.cells #[.int .u8 x.toNat] 5 (1, 2))) (W.alloc (.cells #[.int .u8 x.toNat] 5 (1, 2))).heap.size (some ⟨W.heap.size, 0, none⟩) [x] := fun k y hy => by
  rcases k with _ | k
  · simp at hy
    subst hy
    have hrow := World.alloc_heap_new W (Obj.cells #[.int .u8 x.toNat] 5 (1, 2))
    exact ⟨_, rfl, by simp, cell_of_row _ _ _ _ _ _ hrow⟩
  · simp at hy
/-- Send of one byte, at the world that its slice makes. -/
theorem send_one (g k : Nat) (hk : k < 2) (s : Nat → Way) (x : UInt8) (n c : Nat) (w : World) (h : Lk w g s) (hg : Good s n) (hn : n ≤ 1000) :
    Calls Try.prog 13 #[.pointer (some ⟨g, 0, none⟩), .int .i64 k, .slice (some ⟨w.heap.size, 0, none⟩) 1 c] (w.alloc (.cells #[.int .u8 x.toNat] 5 (1, 2))) fun e w' => e = .returned (.tuple #[]) ∧ Lk w' g (upd s k (({ s k with sent := (s k).sent + 1 } : Way).put ⟨[x], false⟩)) ∧ w.grownBy w' (some g) := by
  have hB : Below w.heap.size w (w.alloc (.cells #[.int .u8 x.toNat] 5 (1, 2))) := (Below.refl _ w).alloc (Nat.le_refl _) _
  have h2 := h.below hB
  obtain ⟨C, hC, hI, hQ⟩ := h2.at_ hk
  have hgl := h.lt
  have hlo := hg.lost k
  have hse := hg.sent k
  refine (send_in _ k g (k * 35) C (s k) (.slice (some ⟨w.heap.size, 0, none⟩) 1 c) [x] _ (fun W => on_in g k hk W) hI (by omega) (by omega) (fun W D hT => ?_)).mono ?_
  · have hR := (one_byte_row w x).to (g := g) (fun ad e => by cases e; show w.heap.size ≠ g; omega) hT
    exact conv_any hR c
  · rintro e w' ⟨rfl, hq⟩
    obtain ⟨h3, h4⟩ := hQ _ _ hq
    exact ⟨rfl, h3, ⟨h4.os.trans hB.os, h4.tape.trans hB.tape, h4.output.trans hB.output, Nat.le_trans hB.size h4.size, fun j hj hne => (h4.block j (Nat.lt_of_lt_of_le hj hB.size) hne).trans (hB.block j hj)⟩⟩
def s0 : Nat → Way := fun _ => emptyQ
def s1 : Nat → Way := upd s0 0 ⟨[⟨[97], false⟩], 1, 0⟩
def s2 : Nat → Way := upd s1 0 ⟨[⟨[97], false⟩, ⟨[98], false⟩], 2, 0⟩
def s3 : Nat → Way := upd s2 0 ⟨[⟨[97], false⟩, ⟨[98], false⟩, ⟨[97], false⟩], 2, 0⟩
def s4 : Nat → Way := upd s3 0 ⟨[⟨[97], false⟩, ⟨[97], false⟩], 2, 0⟩
theorem good_of (s : Nat → Way) (q : Way) (n : Nat) (h : Good s n) (h1 : q.sent ≤ n) (h2 : q.lost ≤ n) (h3 : q.l.length ≤ 16) (h4 : ∀ p ∈ q.l, p.b.length ≤ 100) : Good (upd s 0 q) n := by
  refine ⟨fun k => ?_, fun k => ?_, fun k => ?_, fun k => ?_⟩
  all_goals
    by_cases hk : k = 0
    · subst hk; rw [upd_same]; assumption
    · rw [upd_other _ _ _ _ hk]; first | exact h.sent _ | exact h.lost _ | exact h.len _ | exact h.bytes _
theorem good0 (n : Nat) : Good s0 n := ⟨fun _ => Nat.zero_le _, fun _ => Nat.zero_le _, fun _ => Nat.zero_le _, fun _ _ hp => (List.not_mem_nil hp).elim⟩
theorem good1 : Good s1 2 := good_of _ _ _ (good0 2) (by decide) (by decide) (by decide) (by decide)
theorem good2 : Good s2 2 := good_of _ _ _ good1 (by decide) (by decide) (by decide) (by decide)
theorem lk0 (w : World) : Lk (w.alloc (.cells zeroC 56)) w.heap.size s0 := by
  have hrow := World.alloc_heap_new w (.cells zeroC 56)
  exact ⟨zeroC, rfl, ⟨hrow, by decide, zero_one, zero_at0, by decide⟩, ⟨hrow, by decide, zero_one, zero_at1, by decide⟩⟩
/-- What a call of the link's own leaves. -/
def LTo (w : World) (g : Nat) (s : Nat → Way) (w' : World) : Prop := Lk w' g s ∧ w.grownBy w' (some g)
theorem dbl_one (g : Nat) (w : World) (h : Lk w g s2) : Calls Try.prog 16 #[.pointer (some ⟨g, 0, none⟩), .int .i64 0, .int .i64 0] w fun e w' => e = .returned (.bool true) ∧ LTo w g s3 w' := by
  obtain ⟨C, hC, hI, hQ⟩ := h.at_ (k := 0) (by decide)
  refine (double_in _ 0 0 g (0 * 35) C (s2 0) ⟨[97], false⟩ w (at_in _ _ 0 g (0 * 35) C (s2 0) w (fun W => on_in g 0 (by decide) W) hI (by decide)) hI (by decide) rfl (by decide)).mono ?_
  rintro e w' ⟨rfl, hq⟩
  exact ⟨rfl, hQ _ _ hq⟩
theorem del_one (g : Nat) (w : World) (h : Lk w g s3) : Calls Try.prog 14 #[.pointer (some ⟨g, 0, none⟩), .int .i64 0, .int .i64 1] w fun e w' => ∃ A c, e = .returned (.tuple #[.slice A 1 c, .bool true]) ∧ RdB w' w'.heap.size A [98] ∧ LTo w g s4 w' := by
  obtain ⟨C, hC, hI, hQ⟩ := h.at_ (k := 0) (by decide)
  refine (deliver_in _ 0 1 g (0 * 35) C (s3 0) ⟨[98], false⟩ w (at_in _ _ 1 g (0 * 35) C (s3 0) w (fun W => on_in g 0 (by decide) W) hI (by decide)) hI (by decide) rfl).mono ?_
  rintro e w' ⟨A, c, rfl, hR, hq⟩
  exact ⟨A, c, rfl, hR, hQ _ _ hq⟩
theorem len_one (g : Nat) (w : World) (h : Lk w g s4) : Calls Try.prog 10 #[.pointer (some ⟨g, 0, none⟩), .int .i64 0] w fun e w' => e = .returned (.int .i64 2) ∧ w' = w := by
  obtain ⟨C, hC, hI, hQ⟩ := h.at_ (k := 0) (by decide)
  exact lkLen_in _ 0 g (0 * 35) C (s4 0) w (fun W => on_in g 0 (by decide) W) hI
theorem sent_one (g : Nat) (w : World) (h : Lk w g s4) : Calls Try.prog 11 #[.pointer (some ⟨g, 0, none⟩), .int .i64 0] w fun e w' => e = .returned (.int .i64 2) ∧ w' = w := by
  obtain ⟨C, hC, hI, hQ⟩ := h.at_ (k := 0) (by decide)
  exact lkSent_in _ 0 g (0 * 35) C (s4 0) w (fun W => on_in g 0 (by decide) W) hI
theorem LTo.back {w w1 w2 : World} {g : Nat} {s : Nat → Way} (hB : Below w.heap.size w w1) (h : LTo w1 g s w2) (hg : w.heap.size ≤ g) : Below w.heap.size w w2 := hB.grown h.2 hB.size (fun r e => by cases e; exact hg)
set_option maxHeartbeats 4000000 in
theorem awake_any (w : World) : Calls Try.prog 6 #[] w fun e w' => e = .returned (.bool true) ∧ Below w.heap.size w w' := by
  have HN := hide (new_any w)
  have hB0 := (Below.refl _ w).alloc (Nat.le_refl _) (.cells zeroC 56)
  have hk0 := lk0 w
  have kc := fun (W : World) (C : Array Value) (n c : Nat) => Lib.run_convert_bytes_const (P := Try.prog) W 41 5 C n c Try.underlying41 Try.underlying5
  have HLK := hide lk0
  go_enter Try.func6, Try.ntmps6
  go_wp2_with fail
  refine HN.out.mono ?_
  rintro e w1 ⟨rfl, rfl⟩
  generalize w.alloc (.cells zeroC 56) = w1 at hB0 hk0 ⊢
  have HS : Hid (∀ c, Calls Try.prog 13 #[.pointer (some ⟨w.heap.size, 0, none⟩), .int .i64 0, .slice (some ⟨w1.heap.size, 0, none⟩) 1 c] (w1.alloc (.cells #[.int .u8 97] 5 (1, 2))) fun e w' => e = .returned (.tuple #[]) ∧ LTo w1 w.heap.size s1 w') := hide (fun c => send_one w.heap.size 0 (by decide) s0 97 2 c w1 hk0 (good0 2) (by decide))
  have HB := hide hB0
  clear hB0 hk0 HN HLK
  go_wp2_with fail
  refine (HS.out _).mono ?_
  rintro e w2 ⟨rfl, h2⟩
  have HS2 : Hid (∀ c, Calls Try.prog 13 #[.pointer (some ⟨w.heap.size, 0, none⟩), .int .i64 0, .slice (some ⟨w2.heap.size, 0, none⟩) 1 c] (w2.alloc (.cells #[.int .u8 98] 5 (1, 2))) fun e w' => e = .returned (.tuple #[]) ∧ LTo w2 w.heap.size s2 w') := hide (fun c => send_one w.heap.size 0 (by decide) s1 98 2 c w2 h2.1 good1 (by decide))
  have HB2 := hide (h2.back HB.out (Nat.le_refl _))
  clear h2 HS HB
  go_wp2_with fail
  refine (HS2.out _).mono ?_
  rintro e w3 ⟨rfl, h3⟩
  have HD := hide (dbl_one w.heap.size w3 h3.1)
  have HB3 := hide (h3.back HB2.out (Nat.le_refl _))
  clear h3 HS2 HB2 kc
  go_wp2_with fail
  refine HD.out.mono ?_
  rintro e w4 ⟨rfl, h4⟩
  have HE := hide (del_one w.heap.size w4 h4.1)
  have HB4 := hide (h4.back HB3.out (Nat.le_refl _))
  clear h4 HD HB3
  go_wp2_with fail
  refine HE.out.mono ?_
  rintro e w5 ⟨A, c, rfl, hR, h5⟩
  have hcv : (convert 41 9 (.slice A 1 c)).run Try.prog w5 = .ok (.string (ofL [98])) w5 := conv_any hR c
  have he : ofL [98] = ⟨#[98]⟩ := rfl
  rw [he] at hcv
  have HB5 := hide (h5.back HB4.out (Nat.le_refl _))
  have HL1 := hide (len_one w.heap.size w5 h5.1)
  have HL2 := hide (sent_one w.heap.size w5 h5.1)
  clear h5 HE HB4 hR he
  go_wp2_with fail
  refine HL1.out.mono ?_
  rintro e w6 ⟨rfl, rfl⟩
  go_wp2_with fail
  refine HL2.out.mono ?_
  rintro e w6 ⟨rfl, rfl⟩
  go_wp2_with fail
  exact bodyPost_ret (results_tmp rfl _ _ _) rfl ⟨rfl, HB5.out⟩
end Go.Proofs.Ytfknfpngcnianaa
