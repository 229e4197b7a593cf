/-
  crc.Turn.
-/
import Derived.Test.YtfknfpngcnianaaCrcLaid
import Derived.Test.YtfknfpngcnianaaClone
import Derived.Deep.AppendLies
import Derived.Laws.OwnMore
import Derived.Laws.BitsAllLaws
namespace Go.Proofs.Ytfknfpngcnianaa
open Go.RowKit
set_option maxRecDepth 100000

/-- A byte of a text, turned. -/
def turnAt (l : List UInt8) (p : Int) (m : UInt8) : List UInt8 := if 0 ≤ p ∧ p < l.length then l.set p.toNat (l.getD p.toNat 0 ^^^ m) else l
/-- The first k bytes of a mask, laid over a text. -/
def turnK (l : List UInt8) (at_ : Int) (m : List UInt8) : Nat → List UInt8
  | 0 => l
  | k + 1 => turnAt (turnK l at_ m k) (at_ + k) (m.getD k 0)
def turnL (l : List UInt8) (at_ : Int) (mask : Nat) : List UInt8 := turnK l at_ (le4 mask) 4
theorem turnAt_len (l : List UInt8) (p : Int) (m : UInt8) : (turnAt l p m).length = l.length := by unfold turnAt; split <;> simp
theorem turnK_len (l : List UInt8) (at_ : Int) (m : List UInt8) : ∀ k, (turnK l at_ m k).length = l.length
  | 0 => rfl
  | k + 1 => by rw [turnK, turnAt_len, turnK_len]
theorem turnAt_in (l : List UInt8) (p : Nat) (m : UInt8) (h : p < l.length) : turnAt l p m = l.set p (l[p] ^^^ m) := by
  unfold turnAt
  rw [if_pos (by omega), Int.toNat_natCast, List.getD_eq_getElem?_getD, List.getElem?_eq_getElem h]; rfl
theorem turnAt_out (l : List UInt8) (p : Int) (m : UInt8) (h : ¬ (0 ≤ p ∧ p < l.length)) : turnAt l p m = l := by unfold turnAt; rw [if_neg h]
theorem mask_row {W : World} {g : Nat} {t : TypeId} {m0 m1 m2 m3 : UInt8} (h : W.heap[g]? = some (.cells #[.int .u8 m0.toNat, .int .u8 m1.toNat, .int .u8 m2.toNat, .int .u8 m3.toNat] t (0, 0))) (k : Nat) (hk : k < 4) : W.cell? ⟨g, k, none⟩ = some (.int .u8 ([m0, m1, m2, m3].getD k 0).toNat) := by
  have : k = 0 ∨ k = 1 ∨ k = 2 ∨ k = 3 := by omega
  rcases this with rfl | rfl | rfl | rfl <;> exact cell_of_row _ _ _ _ _ _ h

set_option maxHeartbeats 4000000 in
theorem turn_any (A : Option Addr) (l : List UInt8) (c : Nat) (p : Int) (mask : Nat) (w : World) (hR : RdB w w.heap.size A l) (hc : Caps A l.length c) (hl : l.length ≤ 100000) (hp1 : -9223372036854775808 ≤ p) (hp2 : p ≤ 9223372036854775807) (hm : mask < 4294967296) :
    Calls Try.prog 25 #[.slice A l.length c, .int .i64 p, .int .u32 mask] w (Bytes w (turnL l p mask)) := by
  have HC := hide (clone_own A l c w hR hc (by omega))
  have HL := hide (fun W => laid_any mask W hm)
  have HE := hide (le4_row mask)
  have HM := hide (show turnL l p mask = turnK l p (le4 mask) 4 from rfl)
  obtain ⟨m0, m1, m2, m3, hms⟩ : ∃ m0 m1 m2 m3, le4 mask = [m0, m1, m2, m3] := ⟨_, _, _, _, rfl⟩
  rw [hms] at HE HM
  rw [HE.out, show ([m0, m1, m2, m3].map byteV).toArray = #[.int .u8 m0.toNat, .int .u8 m1.toNat, .int .u8 m2.toNat, .int .u8 m3.toNat] from rfl] at HL
  clear hR hc hm HE hms
  go_enter Try.func25, Try.ntmps25
  go_wp2_with fail
  refine HC.out.mono ?_
  rintro e w1 ⟨A1, c1, rfl, hO1, hB1⟩
  go_wp2_with fail
  refine (HL.out _).mono ?_
  rintro e w2 ⟨rfl, hB2⟩
  go_wp2_with fail
  have hz2 := hB2.size
  have rm := World.alloc_heap_new w2 (Obj.cells #[.int .u8 m0.toNat, .int .u8 m1.toNat, .int .u8 m2.toNat, .int .u8 m3.toNat] 70)
  have hO3 := (own_below hO1 hB2).alloc (Obj.cells #[.int .u8 m0.toNat, .int .u8 m1.toNat, .int .u8 m2.toNat, .int .u8 m3.toNat] 70)
  have hB3 := (hB1.trans (hB2.mono hB1.size)).alloc (hB1.trans (hB2.mono hB1.size)).size (Obj.cells #[.int .u8 m0.toNat, .int .u8 m1.toNat, .int .u8 m2.toNat, .int .u8 m3.toNat] 70)
  have hg1 := hO1.lt
  generalize w2.alloc (.cells #[.int .u8 m0.toNat, .int .u8 m1.toNat, .int .u8 m2.toNat, .int .u8 m3.toNat] 70) = w3 at rm hO3 hB3 ⊢
  have hgz : w.heap.size ≤ w2.heap.size := Nat.le_trans hB1.size hB2.size
  generalize w2.heap.size = g2 at rm hz2 hgz ⊢
  clear hO1 hB1 hB2 HC HL
  go_loopw [9, 10, 15] (fun _ _ i wr => ∃ k : Nat, k ≤ 4 ∧ i = .int .i64 k ∧ wr.ownsRow w.heap.size 5 1 (.slice A1 l.length c1) l.length ((turnK l p [m0, m1, m2, m3] k).map byteV) ∧ wr.heap[g2]? = some (.cells #[.int .u8 m0.toNat, .int .u8 m1.toNat, .int .u8 m2.toNat, .int .u8 m3.toNat] 70 (0, 0)) ∧ Below w.heap.size w wr) (fun _ _ i _ => 4 - (intOf i).toNat)
  case atStart => exact ⟨0, by decide, rfl, hO3, rm, hB3⟩
  case round =>
    obtain ⟨k, hk, rfl, hO, hr, hB⟩ := hrel
    clear hO3 rm hB3
    by_cases hlt : k < 4
    · have hki : (k : Int) < 4 := by omega
      have hcm := mask_row hr k hlt
      have hlen := turnK_len l p [m0, m1, m2, m3] k
      have HS := hide (show turnK l p [m0, m1, m2, m3] (k + 1) = turnAt (turnK l p [m0, m1, m2, m3] k) (p + k) ([m0, m1, m2, m3].getD k 0) from rfl)
      generalize [m0, m1, m2, m3].getD k 0 = mk at hcm HS
      by_cases hin : 0 ≤ p + k ∧ p + k < l.length
      · obtain ⟨P, hP⟩ : ∃ P : Nat, p + k = P := ⟨(p + k).toNat, by omega⟩
        have hPl : P < (turnK l p [m0, m1, m2, m3] k).length := by rw [hlen]; omega
        rw [hP, turnAt_in _ P mk hPl] at HS
        have hPi : (P : Int) < l.length := by omega
        have hw : IntKind.i64.wrap (p + (k : Int)) = (P : Int) := by rw [hP, IntWalk.i64_in _ (by omega)]
        obtain ⟨g, rfl⟩ : ∃ g, A1 = some ⟨g, 0, none⟩ := by
          rcases hO.2 with ⟨hv, h0⟩ | ⟨g, cap, cur, hv, _⟩
          · omega
          · injection hv with h1
            exact ⟨g, h1⟩
        have hgl := hg1 g rfl
        have hgne : g ≠ g2 := by omega
        have hca := hO.cellAt P (by omega)
        rw [List.getElem?_map, List.getElem?_eq_getElem hPl] at hca
        have hfz := hO.frozenAt P
        have hst := hO.stored P (byteV ((turnK l p [m0, m1, m2, m3] k)[P] ^^^ mk))
        generalize (turnK l p [m0, m1, m2, m3] k)[P] = x at hca hst HS
        have hca2 : wr.cell? ⟨g, P, none⟩ = some (.int .u8 x.toNat) := hca
        clear hca hin hP hPl hO
        have hd1 : wr.drew.cell? ⟨g, P, none⟩ = some (.int .u8 x.toNat) := hca2
        have hd2 : wr.drew.cell? ⟨g2, k, none⟩ = some (.int .u8 mk.toNat) := hcm
        have hxx := u8_xor_nat x.toNat mk.toNat x.toNat_lt mk.toNat_lt
        rw [← UInt8.toNat_xor] at hxx
        have hB2 : Below w.heap.size w (wr.setCell ⟨g, P, none⟩ (byteV (x ^^^ mk))) := hB.grown hst.2 hB.size (fun r e => by cases e; exact hgl.1)
        have hr2 : (wr.setCell ⟨g, P, none⟩ (byteV (x ^^^ mk))).heap[g2]? = _ := (hst.2.block g2 (Array.getElem?_eq_some_iff.1 hr).1 (fun e => hgne (by injection e with e; exact e.symm))).trans hr
        have hO2 := hst.1
        rw [← List.map_set, ← HS.out] at hO2
        have HX := hide (And.intro hO2 (And.intro hr2 hB2))
        rw [show byteV (x ^^^ mk) = .int .u8 ((x ^^^ mk).toNat : Nat) from rfl] at HX
        clear hst hO2 hr2 hB2 HS hlen hB hr hca2 hcm
        generalize (x ^^^ mk).toNat = xv at hxx HX
        generalize x.toNat = xn at hxx hd1
        generalize mk.toNat = mn at hxx hd2
        go_wp2_with fail
        go_region
        all_goals
          go_wp2_with fail
          go_roundw
          case rel => exact ⟨k + 1, by omega, rfl, HX.out.1, HX.out.2.1, ⟨HX.out.2.2.os, HX.out.2.2.tape, HX.out.2.2.output, HX.out.2.2.size, HX.out.2.2.block⟩⟩
          case measure => simp [intOf]; omega
      · have HS2 := hide (show turnK l p [m0, m1, m2, m3] (k + 1) = turnK l p [m0, m1, m2, m3] k by rw [HS.out, turnAt_out _ _ _ (by rw [hlen]; exact hin)])
        have hO2 := hO
        rw [← HS2.out] at hO2
        have HX := hide (And.intro hO2 (And.intro hr hB))
        obtain ⟨q, hq⟩ : ∃ q, IntKind.i64.wrap (p + (k : Int)) = q := ⟨_, rfl⟩
        have hq2 : q < 0 ∨ ¬ q < (l.length : Int) := by
          rw [← hq, IntKind.wrap_i64]
          omega
        clear hO2 hO hr hB HS HS2 hcm hlen
        by_cases hq0 : q < 0
        · clear hq2
          go_wp2_with fail
          go_roundw
          case rel => exact ⟨k + 1, by omega, rfl, HX.out.1, HX.out.2.1, HX.out.2.2⟩
          case measure => simp [intOf]; omega
        · have hq3 : ¬ q < (l.length : Int) := by omega
          clear hq2
          go_wp2_with fail
          go_roundw
          case rel => exact ⟨k + 1, by omega, rfl, HX.out.1, HX.out.2.1, HX.out.2.2⟩
          case measure => simp [intOf]; omega
    · obtain rfl : k = 4 := by omega
      have hlen := turnK_len l p [m0, m1, m2, m3] 4
      rw [← HM.out] at hO hlen
      have HX := hide (show Caps A1 (turnL l p mask).length c1 ∧ RdB wr wr.heap.size A1 (turnL l p mask) ∧ Below w.heap.size w wr from ⟨by rw [hlen]; exact ownsRow_caps hO, RdB.own hO, hB⟩)
      have HLn := hide hlen
      clear hO hlen hB hr
      go_wp2_with fail
      exact bodyPost_ret (results_tmp rfl _ _ _) rfl ⟨A1, c1, by rw [HLn.out]; rfl, HX.out.1, HX.out.2.1, HX.out.2.2⟩
end Go.Proofs.Ytfknfpngcnianaa
