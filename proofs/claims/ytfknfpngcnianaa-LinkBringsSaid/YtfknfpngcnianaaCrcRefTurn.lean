/-
  The reference's Turn.
-/
import Derived.Test.YtfknfpngcnianaaCrcTurn
import Derived.Test.YtfknfpngcnianaaCrcFour
namespace Go.Proofs.Ytfknfpngcnianaa
open Go.RowKit
set_option maxRecDepth 100000

/-- Bytes that lie at a block's begin, in a row whose mark stands behind it. -/
def RowF (w : World) (g : Nat) (l : List UInt8) : Prop := ∃ cs : Array Value, w.heap[g]? = some (.cells cs 5 (cs.size, cs.size + 1)) ∧ ∀ (j : Nat) (x : UInt8), l[j]? = some x → cs[j]? = some (byteV x)
theorem RowF.cell {w : World} {g j : Nat} {l : List UInt8} {x : UInt8} (h : RowF w g l) (hx : l[j]? = some x) : w.cell? ⟨g, j, none⟩ = some (.int .u8 x.toNat) := by
  obtain ⟨cs, h1, h2⟩ := h
  unfold World.cell?
  rw [h1]
  have h3 := h2 j x hx
  unfold byteV at h3
  simpa using h3
theorem RowF.free {w : World} {g j : Nat} {l : List UInt8} (h : RowF w g l) (hj : j < l.length) : w.frozen? ⟨g, j, none⟩ = false := by
  obtain ⟨cs, h1, h2⟩ := h
  have hlt : j < cs.size := (Array.getElem?_eq_some_iff.1 (h2 j _ (List.getElem?_eq_getElem hj))).1
  unfold World.frozen?
  rw [h1]
  simp
  omega
theorem RowF.set {w : World} {g j : Nat} {l : List UInt8} (h : RowF w g l) (hj : j < l.length) (y : UInt8) : RowF (w.setCell ⟨g, j, none⟩ (byteV y)) g (l.set j y) := by
  obtain ⟨cs, h1, h2⟩ := h
  have hlt : j < cs.size := (Array.getElem?_eq_some_iff.1 (h2 j _ (List.getElem?_eq_getElem hj))).1
  have hgl := (Array.getElem?_eq_some_iff.1 h1).1
  refine ⟨cs.setIfInBounds j (byteV y), ?_, fun i x hx => ?_⟩
  · simp [World.setCell, Array.getElem?_modify, h1]
  · rw [List.getElem?_set] at hx
    rw [Array.getElem?_setIfInBounds]
    split at hx
    · rename_i he
      subst he
      rw [if_pos rfl, if_pos hlt]
      injection hx with e
      rw [e]
    · rename_i he
      rw [if_neg he]
      exact h2 i x hx
theorem RowF.rd {w : World} {g : Nat} {l : List UInt8} (h : RowF w g l) : RdB w w.heap.size (some ⟨g, 0, none⟩) l := fun k x hx => by
  have hc := h.cell hx
  refine ⟨_, rfl, (show g < w.heap.size from cell_lt hc), ?_⟩
  have e : ((⟨g, 0, none⟩ : Addr).add k) = ⟨g, k, none⟩ := by unfold Addr.add; split <;> simp_all
  rw [e]; exact hc
theorem RowF.made (w : World) (l : List UInt8) : RowF (Lib.bytesWorld w 5 (ofL l)) w.heap.size l := by
  refine ⟨Lib.bytesCells w 5 (ofL l), Lib.bytesWorld_at_new w 5 (ofL l), fun j x hx => ?_⟩
  have hR := (made_bytes w (ofL l)).1
  rw [toL_ofL] at hR
  obtain ⟨ad, e, _, hc⟩ := hR j x hx
  cases e
  have e : ((⟨w.heap.size, 0, none⟩ : Addr).add j) = ⟨w.heap.size, j, none⟩ := by unfold Addr.add; split <;> simp_all
  rw [e] at hc
  unfold World.cell? at hc
  rw [Lib.bytesWorld_at_new] at hc
  simpa using hc
theorem RowF.drew {w : World} {g : Nat} {l : List UInt8} (h : RowF w g l) : RowF w.drew g l := h

set_option maxHeartbeats 4000000 in
theorem refTurn_any (l : List UInt8) (p : Int) (mask : Nat) (w : World) (hl : l.length ≤ 100000) (_hp1 : -9223372036854775808 ≤ p) (_hp2 : p ≤ 9223372036854775807) (hm : mask < 4294967296) :
    Calls Try.prog 18 #[.string (ofL l), .int .i64 p, .int .u32 mask] w fun e w' => e = .returned (.string (ofL (turnL l p mask))) ∧ Below w.heap.size w w' := by
  have HF := hide (fun W => refFour_any mask W hm)
  have HM := hide (show turnL l p mask = turnK l p (le4 mask) 4 from rfl)
  obtain ⟨ms, hms⟩ : ∃ ms, ms = le4 mask := ⟨_, rfl⟩
  have hml : ms.length = 4 := by rw [hms]; rfl
  rw [← hms] at HM HF
  have hsz : ((ofL l).size : Int) = (l.length : Int) := by rw [ofL_size]
  have hszm : (ofL ms).size = 4 := by rw [ofL_size, hml]
  have HMd := hide (fun W => RowF.made W l)
  have HMb := hide (fun W => (made_bytes W (ofL l)).2)
  have hcv := fun W : World => Lib.run_convert_string_bytes (P := Try.prog) W 9 41 5 (ofL l) Try.underlying9 Try.underlying41 Try.underlying5
  have hbig : ((ofL l).size : Int) ≤ 100000 := by omega
  have HLn := hide (ofL_size l)
  generalize ofL l = S at HMd HMb hcv hsz hbig HLn ⊢
  clear hms hm hsz
  go_enter Try.func18, Try.ntmps18
  go_wp2_with fail
  refine (HF.out _).mono ?_
  rintro e w1 ⟨rfl, hB1⟩
  have r0 := HMd.out w1
  have hB2 := hB1.trans ((HMb.out w1).mono hB1.size)
  have hgz := hB1.size
  have hcv1 := hcv w1
  clear hcv HMd HMb hB1 HF
  generalize Lib.bytesWorld w1 5 S = w2 at r0 hB2 hcv1
  go_wp2_with fail
  clear hcv1
  generalize grownCap w1 S.size 0 5 = gc
  generalize w1.heap.size = g at r0 hgz ⊢
  go_loopw [9] (fun i wr => ∃ k : Nat, k ≤ 4 ∧ i = .int .i64 k ∧ RowF wr g (turnK l p ms k) ∧ Below w.heap.size w wr) (fun i _ => 4 - (intOf i).toNat)
  case atStart => exact ⟨0, by decide, rfl, r0, hB2⟩
  case round =>
    obtain ⟨k, hk, rfl, hO, hB⟩ := hrel
    clear r0 hB2
    by_cases hlt : k < 4
    · have hki : (k : Int) < 4 := by omega
      have hlen := turnK_len l p ms k
      have hng : IntKind.i64.wrap (-(k : Int)) = -(k : Int) := IntWalk.i64_in _ (by omega)
      have hsu : IntKind.i64.wrap ((S.size : Int) - (k : Int)) = (S.size : Int) - (k : Int) := IntWalk.i64_in _ (by omega)
      have HS := hide (show turnK l p ms (k + 1) = turnAt (turnK l p ms k) (p + k) (ms.getD k 0) from rfl)
      have hmk : ms.getD k 0 = ms[k]'(by omega) := by rw [List.getD_eq_getElem?_getD, List.getElem?_eq_getElem (by omega)]; rfl
      have hxg : (ofL ms)[k]'(by omega) = ms[k]'(by omega) := by simp [ofL, ByteArray.getElem_eq_getElem_data]
      rw [hmk] at HS
      generalize (ms[k]'(by omega)) = mk at HS hxg
      clear hmk
      have hsl := HLn.out
      by_cases hin : 0 ≤ p + k ∧ p + k < l.length
      · obtain ⟨P, hP⟩ : ∃ P : Nat, p + k = P := ⟨(p + k).toNat, by omega⟩
        have hPl : P < (turnK l p ms k).length := by rw [hlen]; omega
        rw [hP, turnAt_in _ P mk hPl] at HS
        have hPi : (P : Int) < S.size := by omega
        have t1 : -(k : Int) ≤ p := by omega
        have t2 : p < (S.size : Int) - (k : Int) := by omega
        have hw : IntKind.i64.wrap (p + (k : Int)) = (P : Int) := by rw [hP, IntWalk.i64_in _ (by omega)]
        have hca := hO.cell (List.getElem?_eq_getElem hPl)
        have hfz := hO.free hPl
        have hst := hO.set hPl ((turnK l p ms k)[P] ^^^ mk)
        generalize (turnK l p ms k)[P] = x at hca hst HS
        have hxx := u8_xor_nat x.toNat mk.toNat x.toNat_lt mk.toNat_lt
        rw [← UInt8.toNat_xor] at hxx
        rw [← HS.out] at hst
        have HX := hide (And.intro hst (hB.setCell (p := ⟨g, P, none⟩) hgz (byteV (x ^^^ mk))))
        rw [show byteV (x ^^^ mk) = .int .u8 ((x ^^^ mk).toNat : Nat) from rfl] at HX
        have hd1 : wr.drew.cell? ⟨g, P, none⟩ = some (.int .u8 x.toNat) := hca
        clear hst HS hlen hB hO hca hin hP hPl hsl
        have hxg2 : ((ofL ms)[k]'(by omega)).toNat = mk.toNat := by rw [hxg]
        clear hxg
        generalize (x ^^^ mk).toNat = xv at hxx HX
        generalize x.toNat = xn at hxx hd1
        generalize mk.toNat = mn at hxx hxg2
        go_wp2_with fail
        go_region
        all_goals
          go_wp2_with fail
          go_roundw
          case rel => exact ⟨k + 1, by omega, rfl, HX.out.1, ⟨HX.out.2.os, HX.out.2.tape, HX.out.2.output, HX.out.2.size, HX.out.2.block⟩⟩
          case measure => simp [intOf]; omega
      · have HS2 := hide (show turnK l p ms (k + 1) = turnK l p ms k by rw [HS.out, turnAt_out _ _ _ (by rw [hlen]; exact hin)])
        have hO2 := hO
        rw [← HS2.out] at hO2
        have HX := hide (And.intro hO2 hB)
        have hq2 : p < -(k : Int) ∨ ¬ p < (S.size : Int) - (k : Int) := by omega
        clear hO2 hO hB HS HS2 hlen hin hxg hsl
        by_cases hq0 : p < -(k : Int)
        · have hq1 : ¬ -(k : Int) ≤ p := by omega
          clear hq2
          go_wp2_with fail
          go_roundw
          case rel => exact ⟨k + 1, by omega, rfl, HX.out.1, HX.out.2⟩
          case measure => simp [intOf]; omega
        · have hq3 : ¬ p < (S.size : Int) - (k : Int) := by omega
          have hq1 : -(k : Int) ≤ p := by omega
          clear hq2
          go_wp2_with fail
          go_roundw
          case rel => exact ⟨k + 1, by omega, rfl, HX.out.1, HX.out.2⟩
          case measure => simp [intOf]; omega
    · obtain rfl : k = 4 := by omega
      have hcv := conv_any hO.rd gc
      rw [turnK_len, ← HLn.out, ← HM.out] at hcv
      have HB := hide hB
      clear hB hO
      go_wp2_with fail
      exact bodyPost_ret (results_tmp rfl _ _ _) rfl ⟨rfl, HB.out⟩
end Go.Proofs.Ytfknfpngcnianaa
