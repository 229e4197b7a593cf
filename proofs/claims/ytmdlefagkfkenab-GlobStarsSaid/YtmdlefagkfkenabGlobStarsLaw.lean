/-
  The law GlobStars's walk: the way that goes to its end.
-/
import Derived.Test.YtmdlefagkfkenabGlobStarsEarly
import Derived.Deep.DeepCutAuto
import Derived.Deep.LoopGhost
namespace Go.Proofs.Ytmdlefagkfkenab
open Go.RowKit
attribute [local go_sem] World.setCell_drewN' World.alloc_drewN'

/-- The call's own two blocks: what came in. -/
structure SMine (w wr : World) (a b p m q : ByteArray) : Prop where
  below : Below w.heap.size w wr
  size : w.heap.size + 1 < wr.heap.size
  two : wr.heap[w.heap.size]? = some (.cells #[.string a, .string b] 22 (0, 0))
  three : wr.heap[w.heap.size + 1]? = some (.cells #[.string p, .string m, .string q] 23 (0, 0))
section
variable {w wr w1 : World} {a b p m q : ByteArray} (h : SMine w wr a b p m q)
include h
theorem SMine.after (hb : Below wr.heap.size wr w1) : SMine w w1 a b p m q :=
  ⟨h.below.trans (hb.mono h.below.size), Nat.lt_of_lt_of_le h.size hb.size, (hb.block _ (by have := h.size; omega)).trans h.two, (hb.block _ h.size).trans h.three⟩
theorem SMine.p0 : wr.cell? ⟨w.heap.size + 1, 0, none⟩ = some (.string p) := cell_of_row _ _ _ _ _ _ h.three
theorem SMine.p1 : wr.cell? ⟨w.heap.size + 1, 1, none⟩ = some (.string m) := cell_of_row _ _ _ _ _ _ h.three
theorem SMine.p2 : wr.cell? ⟨w.heap.size + 1, 2, none⟩ = some (.string q) := cell_of_row _ _ _ _ _ _ h.three
end
theorem SMine.start (w : World) (a b p m q : ByteArray) (n : Nat) : SMine w (((w.alloc (Obj.cells #[.string a, .string b] 22)).alloc (Obj.cells #[.string p, .string m, .string q] 23)).drewN n) a b p m q :=
  ⟨below_drewN (((Below.refl _ _).alloc (Nat.le_refl _) _).alloc (by simp) _) _, by show _ < ((w.alloc _).alloc _).heap.size; simp, heap_alloc2_old _ _ _, heap_alloc2_new _ _ _⟩

def hasSl (m : ByteArray) (k : Nat) : Bool := (m.data.toList.take k).any (· == 47)
theorem hasSl_snoc (m : ByteArray) (k : Nat) (h : k < m.size) : hasSl m (k + 1) = (hasSl m k || ((m[k].toNat : Int) == 47)) := by
  have h' : k < m.data.toList.length := by simpa using h
  have e : m.data.toList.take (k + 1) = m.data.toList.take k ++ [m.data.toList[k]] := List.take_succ_eq_append_getElem h'
  unfold hasSl
  rw [e, List.any_append]
  congr 1
  have e2 : m.data.toList[k] = m[k] := rfl
  rw [e2]
  rw [Bool.eq_iff_iff]
  simp only [List.any_cons, List.any_nil, Bool.or_false, beq_iff_eq, ← UInt8.toNat_inj]
  show m[k].toNat = 47 ↔ _
  omega
theorem hasSl_no (m : ByteArray) (h : hasSl m m.size = false) : ∀ c ∈ m.data.toList, c ≠ 47 := by
  intro c hc e
  unfold hasSl at h
  rw [List.take_of_length_le (by simp), List.any_eq_false] at h
  exact h c hc (by rw [e]; rfl)

set_option maxRecDepth 100000 in
set_option maxHeartbeats 4000000 in
theorem stars_main (a b p m q : ByteArray) (w : World) (h1 : ¬ (30 : Int) < a.size) (h2 : ¬ (30 : Int) < b.size) (h3 : ¬ (60 : Int) < p.size) (h4 : ¬ (60 : Int) < m.size) (h5 : ¬ (60 : Int) < q.size)
    (hA : a.toList.isEmpty = true ∨ a.toList.isEmpty = false ∧ ∃ h : 0 < a.size, ((a[a.size - 1].toNat : Int) == 42) = false)
    (hB : b.toList.isEmpty = true ∨ b.toList.isEmpty = false ∧ ∃ h : 0 < b.size, ((b[0].toNat : Int) == 42) = false)
    (hnA : noStar a.data.toList) (hnB : b.data.toList.head? ≠ some 42) :
    Calls Try.prog 3 #[.agg #[.string a, .string b], .agg #[.string p, .string m, .string q]] w fun e w' => e = .returned (.bool true) ∧ Below w.heap.size w w' := by
  have HnA := hide hnA
  have HnB := hide hnB
  clear hnA hnB
  go_enter Try.func3, Try.ntmps3
  go_upto_region 1 with fail
  go_quiet (fail)
  go_upto_region 2 with fail
  go_cut [60] (fun s60 wx => s60 = .bool false ∧ SMine w wx a b p m q)
  case first =>
    rcases hA with hA | ⟨hA, hpa, hla⟩
    · rcases hB with hB | ⟨hB, hpb, hlb⟩
      · go_wp2
        go_meet
        exact ⟨rfl, SMine.start w a b p m q _⟩
      · go_wp2
        go_meet
        exact ⟨rfl, SMine.start w a b p m q _⟩
    · have hp1 : (1 : Int) ≤ a.size := by omega
      have e1 : ((a.size : Int) - 1).toNat = a.size - 1 := by omega
      rcases hB with hB | ⟨hB, hpb, hlb⟩
      · go_wp2
        go_meet
        exact ⟨rfl, SMine.start w a b p m q _⟩
      · go_wp2
        go_meet
        exact ⟨rfl, SMine.start w a b p m q _⟩
  case rest =>
    obtain ⟨rfl, hM⟩ := hcut
    clear hA hB
    have x0 := hM.p0
    have ha9 : (a.size : Int) ≤ 9223372036854775806 := by omega
    go_wp2_with fail
    refine (match_any a p _ (by omega)).mono ?_
    rintro e w1 ⟨rfl, hb1⟩
    have hM1 := hM.after hb1
    clear x0 hM hb1
    have x2 := hM1.p2
    cases hg1 : globM a p with
    | false =>
      clear hg1 x2
      go_wp2_with fail
      refine (awake_any _).mono ?_
      rintro e w2 ⟨rfl, hb2⟩
      go_wp2
      go_ret
      exact ⟨rfl, (hM1.after hb2).below⟩
    | true =>
      have G1 := hide hg1
      clear hg1
      go_wp2_with fail
      refine (match_any b q _ (by omega)).mono ?_
      rintro e w2 ⟨rfl, hb2⟩
      have hM2 := hM1.after hb2
      clear x2 hM1 hb2
      cases hg2 : globM b q with
      | false =>
        clear hg2
        go_wp2_with fail
        refine (awake_any _).mono ?_
        rintro e w3 ⟨rfl, hb3⟩
        go_wp2
        go_ret
        exact ⟨rfl, (hM2.after hb3).below⟩
      | true =>
        have G2 := hide hg2
        clear hg2
        have x1 := hM2.p1
        go_wp2
        go_loopg [7, 8] m.size (fun g sl i wr => ∃ k : Nat, i = .int .i64 k ∧ sl = .bool (hasSl m k) ∧ k + g = m.size ∧ wr = w2)
        case atStart => exact ⟨0, rfl, rfl, by omega, rfl⟩
        case round =>
          obtain ⟨k, rfl, rfl, hkg, rfl⟩ := hrel
          have HG := hide hkg
          cases gk with
          | zero =>
            obtain rfl : k = m.size := by omega
            have sa : a.size ≤ 30 := by omega
            have sb : b.size ≤ 30 := by omega
            have T1 := hide (stars_none (q := q) sa sb HnA.out G1.out G2.out)
            have T2 := hide (stars_two (m := m) (q := q) sa sb HnA.out G1.out G2.out)
            have y0 := hM2.p0
            have y2 := hM2.p2
            have s1 : (p ++ m).size ≤ 120 := by rw [ByteArray.size_append]; omega
            have s2 : (p ++ m ++ q).size ≤ 180 := by rw [ByteArray.size_append]; omega
            have s3 : (p ++ q).size ≤ 120 := by rw [ByteArray.size_append]; omega
            have s4 : (a ++ b).size ≤ 60 := by rw [ByteArray.size_append]; omega
            have s5 : (a ++ ByteArray.mk #[42, 42]).size ≤ 32 := by rw [ByteArray.size_append, show (ByteArray.mk #[42, 42]).size = 2 from rfl]; omega
            have s6 : (a ++ ByteArray.mk #[42]).size ≤ 31 := by rw [ByteArray.size_append, show (ByteArray.mk #[42]).size = 1 from rfl]; omega
            clear hkg
            cases hsl : hasSl m m.size with
            | true =>
              clear hsl
              go_wp2_with fail
              refine (awake_any _).mono ?_
              rintro e w3 ⟨rfl, hb3⟩
              have hM3 := hM2.after hb3
              have z0 := hM3.p0
              have z2 := hM3.p2
              go_wp2_with fail
              refine (match_any _ _ _ (by omega)).mono ?_
              rintro e w4 ⟨rfl, hb4⟩
              rw [T1.out]
              have hM4 := hM3.after hb4
              go_wp2_with fail
              refine (match_any _ _ _ (by omega)).mono ?_
              rintro e w5 ⟨rfl, hb5⟩
              rw [T2.out]
              have hM5 := hM4.after hb5
              go_wp2
              go_ret
              exact ⟨rfl, hM5.below⟩
            | false =>
              have T3 := hide (stars_one (m := m) (q := q) sa sb HnA.out HnB.out G1.out G2.out (hasSl_no m hsl))
              clear hsl
              go_wp2_with fail
              refine (awake_any _).mono ?_
              rintro e w3 ⟨rfl, hb3⟩
              have hM3 := hM2.after hb3
              have z0 := hM3.p0
              have z2 := hM3.p2
              go_wp2_with fail
              refine (match_any _ _ _ (by omega)).mono ?_
              rintro e w4 ⟨rfl, hb4⟩
              rw [T1.out]
              have hM4 := hM3.after hb4
              go_wp2_with fail
              refine (match_any _ _ _ (by omega)).mono ?_
              rintro e w5 ⟨rfl, hb5⟩
              rw [T2.out]
              have hM5 := hM4.after hb5
              go_wp2_with fail
              refine (match_any _ _ _ (by omega)).mono ?_
              rintro e w6 ⟨rfl, hb6⟩
              rw [T3.out]
              go_wp2
              go_ret
              exact ⟨rfl, (hM5.after hb6).below⟩
          | succ g =>
            have hk : k < m.size := by omega
            have hk1 : (k : Int) < m.size := by omega
            have hs := hasSl_snoc m k hk
            cases hsl : hasSl m k with
            | true =>
              rw [hsl, Bool.true_or] at hs
              have HS := hide hs
              clear hs hsl hkg
              go_wp2
              go_roundg g
              case rel => exact ⟨k + 1, by go_num, by rw [HS.out], by have := HG.out; omega, rfl⟩
              case measure => omega
            | false =>
              rw [hsl, Bool.false_or] at hs
              have HS := hide hs
              clear hs hsl hkg
              go_wp2
              go_roundg g
              case rel => exact ⟨k + 1, by go_num, by rw [HS.out], by have := HG.out; omega, rfl⟩
              case measure => omega
end Go.Proofs.Ytmdlefagkfkenab
