/-
  Frames: which may be; the program's and the reference's Right; the numbers' bytes.
-/
import Derived.Test.YtlbhgebjmekclaaDoorVintPut
import Derived.Deep.RegionHeld3
import Derived.Deep.LoopGhost
import Derived.Deep.DeepCutAuto
namespace Go.Proofs.YtlbhgebjmekclaaDoor
open Go.RowKit
set_option maxRecDepth 100000

/-- A frame. -/
structure Fr where
  kind : Int
  boot : Nat
  num : Nat
  body : ByteArray
def Fr.cells (f : Fr) : Array Value := #[.int .i64 f.kind, .int .u64 (f.boot : Nat), .int .u64 (f.num : Nat), .string f.body]
def Fr.fits (f : Fr) : Prop := f.boot < 18446744073709551616 ∧ f.num < 18446744073709551616
/-- May it be? -/
def rightF (f : Fr) : Bool := decide (0 ≤ f.kind) && (decide (f.kind ≤ 255) && decide ((f.body.size : Int) ≤ 131072))

set_option maxHeartbeats 4000000 in
theorem frRight_any (f : Fr) (w : World) : Calls Tryd.prog 10 #[.agg f.cells] w fun e w' => e = .returned (.bool (rightF f)) ∧ Below w.heap.size w w' := by
  obtain ⟨kd, bt, nm, bd⟩ := f
  have hb := (Below.refl w.heap.size w).alloc (Nat.le_refl _) (Obj.cells (Fr.cells ⟨kd, bt, nm, bd⟩) 26)
  have hr := World.alloc_heap_new w (Obj.cells (Fr.cells ⟨kd, bt, nm, bd⟩) 26)
  unfold rightF
  simp only [Fr.cells] at hb hr ⊢
  have c0 := cell_of_row _ _ 0 _ _ _ hr
  have c3 := cell_of_row _ _ 3 _ _ _ hr
  have HB := hide hb
  clear hb hr
  by_cases h1 : (0 : Int) ≤ kd
  · by_cases h2 : kd ≤ 255
    · by_cases h3 : (bd.size : Int) ≤ 131072
      all_goals
        go_enter Tryd.func10, Tryd.ntmps10
        go_wp2_with fail
        exact bodyPost_ret (results_tmp rfl _ _ _) rfl ⟨by simp; omega, HB.out⟩
    · go_enter Tryd.func10, Tryd.ntmps10
      go_wp2_with fail
      exact bodyPost_ret (results_tmp rfl _ _ _) rfl ⟨by simp; omega, HB.out⟩
  · go_enter Tryd.func10, Tryd.ntmps10
    go_wp2_with fail
    exact bodyPost_ret (results_tmp rfl _ _ _) rfl ⟨by simp; omega, HB.out⟩

set_option maxHeartbeats 4000000 in
theorem refFrRight_any (f : Fr) (w : World) : Calls Tryd.prog 11 #[.agg f.cells] w fun e w' => e = .returned (.bool (rightF f)) ∧ Below w.heap.size w w' := by
  obtain ⟨kd, bt, nm, bd⟩ := f
  have hb := (Below.refl w.heap.size w).alloc (Nat.le_refl _) (Obj.cells (Fr.cells ⟨kd, bt, nm, bd⟩) 24)
  have hr := World.alloc_heap_new w (Obj.cells (Fr.cells ⟨kd, bt, nm, bd⟩) 24)
  unfold rightF
  simp only [Fr.cells] at hb hr ⊢
  have c0 := cell_of_row _ _ 0 _ _ _ hr
  have c3 := cell_of_row _ _ 3 _ _ _ hr
  have HB := hide hb
  clear hb hr
  by_cases h1 : (0 : Int) ≤ kd
  · by_cases h2 : kd ≤ 255
    · by_cases h3 : (bd.size : Int) ≤ 131072
      all_goals
        go_enter Tryd.func11, Tryd.ntmps11
        go_wp2_with fail
        exact bodyPost_ret (results_tmp rfl _ _ _) rfl ⟨by simp; omega, HB.out⟩
    · go_enter Tryd.func11, Tryd.ntmps11
      go_wp2_with fail
      exact bodyPost_ret (results_tmp rfl _ _ _) rfl ⟨by simp; omega, HB.out⟩
  · go_enter Tryd.func11, Tryd.ntmps11
    go_wp2_with fail
    exact bodyPost_ret (results_tmp rfl _ _ _) rfl ⟨by simp; omega, HB.out⟩

/-- Numbers that lie at an address, one behind the other. -/
def RdU (w : World) (B : Nat) (A : Option Addr) (L : List Nat) : Prop := ∀ k n, L[k]? = some n → ∃ ad : Addr, A = some ad ∧ ad.block < B ∧ w.cell? (ad.add k) = some (.int .u64 (n : Nat))
theorem RdU.below {w w' : World} {B : Nat} {A : Option Addr} {L : List Nat} (h : RdU w B A L) (hb : Below B w w') : RdU w' B A L := fun k x hx => by
  obtain ⟨ad, e, hlt, hc⟩ := h k x hx
  exact ⟨ad, e, hlt, (hb.cell (by rw [add_block]; omega)).trans hc⟩
/-- Their bytes. -/
def numsL (L : List Nat) : List UInt8 := L.flatMap groupsL
theorem numsL_take (L : List Nat) (i n : Nat) (h : L[i]? = some n) : numsL (L.take (i + 1)) = numsL (L.take i) ++ groupsL n := by
  obtain ⟨hlt, e⟩ := List.getElem?_eq_some_iff.1 h
  unfold numsL
  rw [← List.take_append_getElem hlt, e, List.flatMap_append]
  simp

set_option maxHeartbeats 16000000 in
theorem nums_any (A : Option Addr) (L : List Nat) (c : Nat) (w : World) (hA : RdU w w.heap.size A L) (hL : L.length ≤ 100) (hf : ∀ n ∈ L, n < 18446744073709551616) (hs : (numsL L).length ≤ 100000) :
    Calls Tryd.prog 21 #[.slice A L.length c] w (Bytes w (numsL L)) := by
  have HA := hide hA
  have HF := hide hf
  have hle : ∀ i, (numsL (L.take i)).length ≤ (numsL L).length := fun i => by
    unfold numsL
    rw [show L.flatMap groupsL = (L.take i).flatMap groupsL ++ (L.drop i).flatMap groupsL by rw [← List.flatMap_append, List.take_append_drop], List.length_append]
    omega
  have HLe := hide hle
  clear hA hf hle
  unfold Bytes
  go_enter Tryd.func21, Tryd.ntmps21
  go_wp2_with fail
  go_loopg [3, 8] L.length (fun gk bv iv wr => ∃ (i : Nat) (B : Option Addr) (d : Nat), bv = .slice B (numsL (L.take i)).length d ∧ iv = .int .i64 i ∧ i + gk = L.length ∧ Hid (Caps B (numsL (L.take i)).length d) ∧ Hid (RdB wr wr.heap.size B (numsL (L.take i))) ∧ Hid (Below w.heap.size w wr))
  case atStart => exact ⟨0, none, 0, rfl, rfl, by omega, hide ⟨Nat.le_refl _, fun _ => rfl⟩, hide (RdB.nil _ _ _), hide (Below.refl _ _)⟩
  case round =>
    obtain ⟨i, B, d, rfl, rfl, hig, HC, HR, HW⟩ := hrel
    cases gk with
    | zero =>
      obtain rfl : i = L.length := by omega
      rw [List.take_length] at HC HR ⊢
      go_wp2_with fail
      exact bodyPost_ret (results_tmp rfl _ _ _) rfl ⟨B, d, rfl, HC.out, HR.out, HW.out⟩
    | succ g0 =>
      have hii : (i : Int) < L.length := by omega
      have hi0 : (0 : Int) ≤ (i : Int) := by omega
      obtain ⟨n, hn⟩ : ∃ n, L[i]? = some n := ⟨_, List.getElem?_eq_getElem (by omega)⟩
      have hiw : IntKind.i64.wrap ((i : Int) + 1) = ((i + 1 : Nat) : Int) := by rw [IntWalk.i64_in _ (by omega)]; rfl
      obtain ⟨ad, rfl, hlt, hc⟩ := (HA.out.below HW.out) i n hn
      have hst := numsL_take L i n hn
      have hP := putNum_any B (numsL (L.take i)) d n wr HR.out (by have := HLe.out i; omega) (HF.out n (List.mem_of_getElem? hn))
      rw [← hst] at hP
      have HP := hide hP
      unfold Bytes at HP
      generalize numsL (L.take i) = bs at HP ⊢
      clear hst hP hn HC HR
      go_wp2_with fail
      refine HP.out.mono ?_
      rintro e w2 ⟨E, f, rfl, hc2, hr2, hb2⟩
      have HC2 := hide hc2
      have HR2 := hide hr2
      have HW2 := hide (HW.out.trans (hb2.mono HW.out.size))
      clear hc2 hr2 hb2 HP
      go_wp2_with fail
      go_roundg g0
      case rel => exact ⟨i + 1, E, f, rfl, rfl, by omega, HC2, HR2, HW2⟩
      case measure => omega
end Go.Proofs.YtlbhgebjmekclaaDoor
