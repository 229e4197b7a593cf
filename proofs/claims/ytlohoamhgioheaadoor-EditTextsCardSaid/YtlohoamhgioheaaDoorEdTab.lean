/-
  The tables of package edit: Word, has, kindOf.
-/
import Derived.Test.YtlohoamhgioheaaDoorBase
import Derived.Test.YtlohoamhgioheaaDoorBytes
import Derived.Test.YtlohoamhgioheaaDoorEdWords
import Derived.Laws.BitsAllLaws
import Derived.Lib.LaidTab
namespace Go.Proofs.YtlohoamhgioheaaDoor
open Go.RowKit
set_option maxRecDepth 100000

/-- A kind's word, as the program has it. -/
def wordB (k : Int) : ByteArray := ⟨(wordL k).toArray⟩
theorem wordB_toL (k : Int) : (wordB k).data.toList = wordL k := by unfold wordB; simp
/-- Which fields the table has for a kind. -/
def fieldsN (k : Nat) : Int := [0, 3, 7, 6, 6, 3, 3, 2, 1, 6].getD k 0
/-- The two tables lie in the first two blocks. -/
structure Tabs (w : World) : Prop where
  ws : ∀ k : Nat, k < 10 → w.cell? ⟨0, k, none⟩ = some (.string (wordB k))
  fs : ∀ k : Nat, k < 10 → w.cell? ⟨1, k, none⟩ = some (.int .i64 (fieldsN k))
  p10 : Lib.TabIs Tryd.prog w "internal/strconv.uint64pow10" .u64 Lib.pow10Tab
  lt : 2 < w.heap.size
theorem pow10_at : Tryd.prog.globalNamed "internal/strconv.uint64pow10" = some 2 := by kernel_rfl
theorem var_keep {w w' : World} {B g : Nat} {n : String} {cs : Array Value} (h : w.var? Tryd.prog n = some cs) (hg : Tryd.prog.globalNamed n = some g) (hb : Below B w w') (hB : g < B) : w'.var? Tryd.prog n = some cs := by
  unfold World.var? at h ⊢
  rw [hg] at h ⊢
  simp only [Option.bind_some] at h ⊢
  have hlt : g < w.heap.size := by
    cases hh : w.heap[g]? with
    | none => rw [hh] at h; cases h
    | some o => exact (Array.getElem?_eq_some_iff.1 hh).1
  rw [hb.block g hB]
  exact h
theorem Tabs.keep {w w' : World} {B : Nat} (h : Tabs w) (hb : Below B w w') (hB : 3 ≤ B) : Tabs w' :=
  ⟨fun k hk => (hb.cell (p := ⟨0, k, none⟩) (by show 0 < B; omega)).trans (h.ws k hk), fun k hk => (hb.cell (p := ⟨1, k, none⟩) (by show 1 < B; omega)).trans (h.fs k hk), var_keep h.p10 pow10_at hb (by omega), Nat.lt_of_lt_of_le h.lt hb.size⟩
theorem Tabs.below {w w' : World} (h : Tabs w) (hb : Below w.heap.size w w') : Tabs w' := h.keep hb (by have := h.lt; omega)

set_option maxHeartbeats 1000000 in
theorem word_any (k : Int) (w : World) (hT : Tabs w) :
    Calls Tryd.prog 12 #[.int .i64 k] w fun e w' => e = .returned (.string (wordB k)) ∧ w' = w := by
  by_cases hk0 : k < 0
  · have HE := hide (show wordB k = ⟨#[]⟩ by unfold wordB; rw [word_out (by omega)])
    go_enter Tryd.func12, Tryd.ntmps12
    go_wp2_with fail
    exact bodyPost_ret (results_tmp rfl _ _ _) rfl ⟨by rw [HE.out]; rfl, rfl⟩
  · by_cases hk1 : k ≥ 10
    · have HE := hide (show wordB k = ⟨#[]⟩ by unfold wordB; rw [word_out (by omega)])
      go_enter Tryd.func12, Tryd.ntmps12
      go_wp2_with fail
      exact bodyPost_ret (results_tmp rfl _ _ _) rfl ⟨by rw [HE.out]; rfl, rfl⟩
    · obtain ⟨m, rfl⟩ : ∃ m : Nat, k = m := ⟨k.toNat, by omega⟩
      have hc := hT.ws m (by omega)
      clear hT
      go_enter Tryd.func12, Tryd.ntmps12
      go_wp2_with fail
      exact bodyPost_ret (results_tmp rfl _ _ _) rfl ⟨rfl, rfl⟩

/-- Whether a kind has a field: 1 is From, 2 is To, 4 is N. -/
def hasX (k b : Int) : Bool := if b = 1 then hasF k else if b = 2 then hasT k else hasN k
theorem has_out {k b : Int} (h : wordL k = []) : hasX k b = false := by
  have h1 : k < 1 ∨ 9 < k := by
    by_cases h1 : k < 1
    · exact .inl h1
    · by_cases h2 : 9 < k
      · exact .inr h2
      · exact absurd h (word_ne (by omega) (by omega))
  unfold hasX hasF hasT hasN
  simp [show ¬ k = 1 by omega, show ¬ k = 2 by omega, show ¬ k = 3 by omega, show ¬ k = 4 by omega, show ¬ k = 5 by omega, show ¬ k = 6 by omega, show ¬ k = 7 by omega, show ¬ k = 8 by omega, show ¬ k = 9 by omega]
theorem bits_all : ∀ k : Fin 10, ∀ b ∈ [(1 : Int), 2, 4], 1 ≤ k.val → (bits .and .i64 (fieldsN k.val) b != 0) = hasX (k.val : Int) b := by decide +kernel

set_option maxHeartbeats 2000000 in
theorem has_any (k b : Int) (w : World) (hT : Tabs w) (hb : b = 1 ∨ b = 2 ∨ b = 4) :
    Calls Tryd.prog 21 #[.int .i64 k, .int .i64 b] w fun e w' => e = .returned (.bool (hasX k b)) ∧ w' = w := by
  have HW := hide (word_any k w hT)
  by_cases hk : wordL k = []
  · have HE := hide (has_out (b := b) hk)
    have HB := hide (show wordB k = ⟨#[]⟩ by unfold wordB; rw [hk])
    go_enter Tryd.func21, Tryd.ntmps21
    go_wp2_with fail
    refine (HW.out).mono ?_
    rintro e w1 ⟨rfl, rfl⟩
    rw [HB.out]
    go_wp2_with fail
    exact bodyPost_ret (results_tmp rfl _ _ _) rfl ⟨by rw [HE.out]; rfl, rfl⟩
  · have hks := kinds_cases hk
    obtain ⟨m, rfl⟩ : ∃ m : Nat, k = m := ⟨k.toNat, by omega⟩
    have hc := hT.fs m (by omega)
    have hE := (bits_all ⟨m, by omega⟩ b (by rcases hb with rfl | rfl | rfl <;> simp) (by show 1 ≤ m; omega))
    have hne : (wordB (m : Int)).toList.isEmpty = false := by
      rw [Lib.toList_data, wordB_toL]
      cases h : wordL (m : Int) with
      | nil => exact absurd h hk
      | cons a l => rfl
    have hm9 : m < 10 := by omega
    clear hT hk
    generalize wordB (m : Int) = B at HW hne
    go_enter Tryd.func21, Tryd.ntmps21
    go_wp2_with fail
    refine (HW.out).mono ?_
    rintro e w1 ⟨rfl, rfl⟩
    go_wp2_with fail
    exact bodyPost_ret (results_tmp rfl _ _ _) rfl ⟨by rw [← hE]; rfl, rfl⟩

theorem kind_none {w : List UInt8} (h : ∀ j : Nat, j < 10 → ¬ wordL (j : Int) = w) : kindL w = 0 := by
  have h1 := h 1 (by decide); have h2 := h 2 (by decide); have h3 := h 3 (by decide); have h4 := h 4 (by decide); have h5 := h 5 (by decide)
  have h6 := h 6 (by decide); have h7 := h 7 (by decide); have h8 := h 8 (by decide); have h9 := h 9 (by decide)
  unfold kindL
  rw [if_neg (fun e => h1 (by rw [e]; rfl)), if_neg (fun e => h2 (by rw [e]; rfl)), if_neg (fun e => h3 (by rw [e]; rfl)), if_neg (fun e => h4 (by rw [e]; rfl)), if_neg (fun e => h5 (by rw [e]; rfl)), if_neg (fun e => h6 (by rw [e]; rfl)), if_neg (fun e => h7 (by rw [e]; rfl)), if_neg (fun e => h8 (by rw [e]; rfl)), if_neg (fun e => h9 (by rw [e]; rfl))]
theorem kind_at {w : List UInt8} {j : Nat} (h : j < 10) (e : wordL (j : Int) = w) : kindL w = j := by
  rw [← e]
  clear e
  have : ∀ j : Fin 10, kindL (wordL (j.val : Int)) = (j.val : Int) := by decide
  exact this ⟨j, h⟩
theorem word_eq (k : Int) (s : ByteArray) : ((wordB k).toList == s.toList) = decide (wordL k = toL s) := by
  rw [Lib.toList_data, Lib.toList_data, wordB_toL]
  show (wordL k == toL s) = _
  by_cases h : wordL k = toL s
  · simp [h]
  · simp [h]
theorem word_index (W : World) : (Instr.index 54 (.agg #[.string (wordB 0), .string (wordB 1), .string (wordB 2), .string (wordB 3), .string (wordB 4), .string (wordB 5), .string (wordB 6), .string (wordB 7), .string (wordB 8), .string (wordB 9)]) (.int .i64 0)).run Tryd.prog W = .ok (.string (wordB 0)) W ∧
    (Instr.index 54 (.agg #[.string (wordB 0), .string (wordB 1), .string (wordB 2), .string (wordB 3), .string (wordB 4), .string (wordB 5), .string (wordB 6), .string (wordB 7), .string (wordB 8), .string (wordB 9)]) (.int .i64 1)).run Tryd.prog W = .ok (.string (wordB 1)) W ∧
    (Instr.index 54 (.agg #[.string (wordB 0), .string (wordB 1), .string (wordB 2), .string (wordB 3), .string (wordB 4), .string (wordB 5), .string (wordB 6), .string (wordB 7), .string (wordB 8), .string (wordB 9)]) (.int .i64 2)).run Tryd.prog W = .ok (.string (wordB 2)) W ∧
    (Instr.index 54 (.agg #[.string (wordB 0), .string (wordB 1), .string (wordB 2), .string (wordB 3), .string (wordB 4), .string (wordB 5), .string (wordB 6), .string (wordB 7), .string (wordB 8), .string (wordB 9)]) (.int .i64 3)).run Tryd.prog W = .ok (.string (wordB 3)) W ∧
    (Instr.index 54 (.agg #[.string (wordB 0), .string (wordB 1), .string (wordB 2), .string (wordB 3), .string (wordB 4), .string (wordB 5), .string (wordB 6), .string (wordB 7), .string (wordB 8), .string (wordB 9)]) (.int .i64 4)).run Tryd.prog W = .ok (.string (wordB 4)) W ∧
    (Instr.index 54 (.agg #[.string (wordB 0), .string (wordB 1), .string (wordB 2), .string (wordB 3), .string (wordB 4), .string (wordB 5), .string (wordB 6), .string (wordB 7), .string (wordB 8), .string (wordB 9)]) (.int .i64 5)).run Tryd.prog W = .ok (.string (wordB 5)) W ∧
    (Instr.index 54 (.agg #[.string (wordB 0), .string (wordB 1), .string (wordB 2), .string (wordB 3), .string (wordB 4), .string (wordB 5), .string (wordB 6), .string (wordB 7), .string (wordB 8), .string (wordB 9)]) (.int .i64 6)).run Tryd.prog W = .ok (.string (wordB 6)) W ∧
    (Instr.index 54 (.agg #[.string (wordB 0), .string (wordB 1), .string (wordB 2), .string (wordB 3), .string (wordB 4), .string (wordB 5), .string (wordB 6), .string (wordB 7), .string (wordB 8), .string (wordB 9)]) (.int .i64 7)).run Tryd.prog W = .ok (.string (wordB 7)) W ∧
    (Instr.index 54 (.agg #[.string (wordB 0), .string (wordB 1), .string (wordB 2), .string (wordB 3), .string (wordB 4), .string (wordB 5), .string (wordB 6), .string (wordB 7), .string (wordB 8), .string (wordB 9)]) (.int .i64 8)).run Tryd.prog W = .ok (.string (wordB 8)) W ∧
    (Instr.index 54 (.agg #[.string (wordB 0), .string (wordB 1), .string (wordB 2), .string (wordB 3), .string (wordB 4), .string (wordB 5), .string (wordB 6), .string (wordB 7), .string (wordB 8), .string (wordB 9)]) (.int .i64 9)).run Tryd.prog W = .ok (.string (wordB 9)) W :=
  ⟨by kernel_rfl, by kernel_rfl, by kernel_rfl, by kernel_rfl, by kernel_rfl, by kernel_rfl, by kernel_rfl, by kernel_rfl, by kernel_rfl, by kernel_rfl⟩
set_option maxHeartbeats 8000000 in
theorem kind_any (s : ByteArray) (w : World) (hT : Tabs w) :
    Calls Tryd.prog 46 #[.string s] w fun e w' => e = .returned (.int .i64 (kindL (toL s))) ∧ w' = w := by
  have c0 : w.cell? ⟨0, 0, none⟩ = some (.string (wordB 0)) := hT.ws 0 (by decide)
  have c1 : w.cell? ⟨0, 1, none⟩ = some (.string (wordB 1)) := hT.ws 1 (by decide)
  have c2 : w.cell? ⟨0, 2, none⟩ = some (.string (wordB 2)) := hT.ws 2 (by decide)
  have c3 : w.cell? ⟨0, 3, none⟩ = some (.string (wordB 3)) := hT.ws 3 (by decide)
  have c4 : w.cell? ⟨0, 4, none⟩ = some (.string (wordB 4)) := hT.ws 4 (by decide)
  have c5 : w.cell? ⟨0, 5, none⟩ = some (.string (wordB 5)) := hT.ws 5 (by decide)
  have c6 : w.cell? ⟨0, 6, none⟩ = some (.string (wordB 6)) := hT.ws 6 (by decide)
  have c7 : w.cell? ⟨0, 7, none⟩ = some (.string (wordB 7)) := hT.ws 7 (by decide)
  have c8 : w.cell? ⟨0, 8, none⟩ = some (.string (wordB 8)) := hT.ws 8 (by decide)
  have c9 : w.cell? ⟨0, 9, none⟩ = some (.string (wordB 9)) := hT.ws 9 (by decide)
  have hx := fun W => word_index W
  clear hT
  go_enter Tryd.func46, Tryd.ntmps46
  go_wp2_with fail
  go_loopw [6] (fun i wr => ∃ k : Nat, k ≤ 10 ∧ i = .int .i64 k ∧ Hid (∀ j : Nat, j < k → ¬ wordL (j : Int) = toL s) ∧ wr = w) (fun i _ => 10 - (intOf i).toNat)
  case atStart => exact ⟨0, Nat.zero_le _, rfl, hide (fun j hj => by omega), rfl⟩
  case round =>
    obtain ⟨k, hk, rfl, HN, rfl⟩ := hrel
    by_cases hlt : k < 10
    · have hs := word_eq k s
      by_cases he : wordL (k : Int) = toL s
      · have HE := hide (kind_at hlt he)
        rw [decide_eq_true he] at hs
        clear he
        have : k = 0 ∨ k = 1 ∨ k = 2 ∨ k = 3 ∨ k = 4 ∨ k = 5 ∨ k = 6 ∨ k = 7 ∨ k = 8 ∨ k = 9 := by omega
        rcases this with rfl | rfl | rfl | rfl | rfl | rfl | rfl | rfl | rfl | rfl
        · have hs : ((wordB 0).toList == s.toList) = true := hs
          go_wp2_with fail
          exact bodyPost_ret (results_tmp rfl _ _ _) rfl ⟨by rw [HE.out]; rfl, rfl⟩
        · have hs : ((wordB 1).toList == s.toList) = true := hs
          go_wp2_with fail
          exact bodyPost_ret (results_tmp rfl _ _ _) rfl ⟨by rw [HE.out]; rfl, rfl⟩
        · have hs : ((wordB 2).toList == s.toList) = true := hs
          go_wp2_with fail
          exact bodyPost_ret (results_tmp rfl _ _ _) rfl ⟨by rw [HE.out]; rfl, rfl⟩
        · have hs : ((wordB 3).toList == s.toList) = true := hs
          go_wp2_with fail
          exact bodyPost_ret (results_tmp rfl _ _ _) rfl ⟨by rw [HE.out]; rfl, rfl⟩
        · have hs : ((wordB 4).toList == s.toList) = true := hs
          go_wp2_with fail
          exact bodyPost_ret (results_tmp rfl _ _ _) rfl ⟨by rw [HE.out]; rfl, rfl⟩
        · have hs : ((wordB 5).toList == s.toList) = true := hs
          go_wp2_with fail
          exact bodyPost_ret (results_tmp rfl _ _ _) rfl ⟨by rw [HE.out]; rfl, rfl⟩
        · have hs : ((wordB 6).toList == s.toList) = true := hs
          go_wp2_with fail
          exact bodyPost_ret (results_tmp rfl _ _ _) rfl ⟨by rw [HE.out]; rfl, rfl⟩
        · have hs : ((wordB 7).toList == s.toList) = true := hs
          go_wp2_with fail
          exact bodyPost_ret (results_tmp rfl _ _ _) rfl ⟨by rw [HE.out]; rfl, rfl⟩
        · have hs : ((wordB 8).toList == s.toList) = true := hs
          go_wp2_with fail
          exact bodyPost_ret (results_tmp rfl _ _ _) rfl ⟨by rw [HE.out]; rfl, rfl⟩
        · have hs : ((wordB 9).toList == s.toList) = true := hs
          go_wp2_with fail
          exact bodyPost_ret (results_tmp rfl _ _ _) rfl ⟨by rw [HE.out]; rfl, rfl⟩
      · have HN2 := hide (show ∀ j : Nat, j < k + 1 → ¬ wordL (j : Int) = toL s from fun j hj => by
          by_cases hjk : j = k
          · rw [hjk]; exact he
          · exact HN.out j (by omega))
        rw [decide_eq_false he] at hs
        clear he
        have : k = 0 ∨ k = 1 ∨ k = 2 ∨ k = 3 ∨ k = 4 ∨ k = 5 ∨ k = 6 ∨ k = 7 ∨ k = 8 ∨ k = 9 := by omega
        rcases this with rfl | rfl | rfl | rfl | rfl | rfl | rfl | rfl | rfl | rfl
        · have hs : ((wordB 0).toList == s.toList) = false := hs
          go_wp2_with fail
          go_roundw
          case rel => exact ⟨1, by omega, rfl, HN2, trivial⟩
          case measure => simp [intOf]
        · have hs : ((wordB 1).toList == s.toList) = false := hs
          go_wp2_with fail
          go_roundw
          case rel => exact ⟨2, by omega, rfl, HN2, trivial⟩
          case measure => simp [intOf]
        · have hs : ((wordB 2).toList == s.toList) = false := hs
          go_wp2_with fail
          go_roundw
          case rel => exact ⟨3, by omega, rfl, HN2, trivial⟩
          case measure => simp [intOf]
        · have hs : ((wordB 3).toList == s.toList) = false := hs
          go_wp2_with fail
          go_roundw
          case rel => exact ⟨4, by omega, rfl, HN2, trivial⟩
          case measure => simp [intOf]
        · have hs : ((wordB 4).toList == s.toList) = false := hs
          go_wp2_with fail
          go_roundw
          case rel => exact ⟨5, by omega, rfl, HN2, trivial⟩
          case measure => simp [intOf]
        · have hs : ((wordB 5).toList == s.toList) = false := hs
          go_wp2_with fail
          go_roundw
          case rel => exact ⟨6, by omega, rfl, HN2, trivial⟩
          case measure => simp [intOf]
        · have hs : ((wordB 6).toList == s.toList) = false := hs
          go_wp2_with fail
          go_roundw
          case rel => exact ⟨7, by omega, rfl, HN2, trivial⟩
          case measure => simp [intOf]
        · have hs : ((wordB 7).toList == s.toList) = false := hs
          go_wp2_with fail
          go_roundw
          case rel => exact ⟨8, by omega, rfl, HN2, trivial⟩
          case measure => simp [intOf]
        · have hs : ((wordB 8).toList == s.toList) = false := hs
          go_wp2_with fail
          go_roundw
          case rel => exact ⟨9, by omega, rfl, HN2, trivial⟩
          case measure => simp [intOf]
        · have hs : ((wordB 9).toList == s.toList) = false := hs
          go_wp2_with fail
          go_roundw
          case rel => exact ⟨10, by omega, rfl, HN2, trivial⟩
          case measure => simp [intOf]
    · obtain rfl : k = 10 := by omega
      have HE := hide (kind_none HN.out)
      go_wp2_with fail
      exact bodyPost_ret (results_tmp rfl _ _ _) rfl ⟨by rw [HE.out]; rfl, rfl⟩
end Go.Proofs.YtlohoamhgioheaaDoor
