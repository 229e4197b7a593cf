/-
  MixPieces's law.
-/
import Derived.Test.YtffhkdbdcpobbaaMixAwake
import Derived.Test.YtffhkdbdcpobbaaMixRefOf
import Derived.Lib.UnsafeStr
namespace Go.Proofs.Ytffhkdbdcpobbaa
open Go.RowKit
set_option maxRecDepth 100000

/-- A slice of bytes, as a value: where it lies, its bytes, its capacity. -/
abbrev Sl := Option Addr × List UInt8 × Nat
/-- Slices of bytes that lie at an address. -/
def RdS (w : World) (B : Nat) (A : Option Addr) (l : List Sl) : Prop :=
  ∀ k x, l[k]? = some x → ∃ ad : Addr, A = some ad ∧ (ad.add (k * 1)).block < B ∧ w.cell? (ad.add (k * 1)) = some (.slice x.1 x.2.1.length x.2.2) ∧ RdB w B x.1 x.2.1 ∧ x.2.1.length ≤ x.2.2
theorem RdS.below {w w' : World} {B B' : Nat} {A : Option Addr} {l : List Sl} (h : RdS w B A l) (hb : Below B' w w') (hB : B ≤ B') : RdS w' B A l := fun k x hx => by
  obtain ⟨ad, e, hlt, hc, hr, hn⟩ := h k x hx
  exact ⟨ad, e, hlt, (hb.cell (by omega)).trans hc, hr.below hb hB, hn⟩
def flatS (l : List Sl) : List UInt8 := l.flatMap (·.2.1)
theorem flatS_more (l : List Sl) (k : Nat) (h : k < l.length) : flatS (l.take (k + 1)) = flatS (l.take k) ++ (l[k]).2.1 := by
  unfold flatS
  rw [← List.take_append_getElem h, List.flatMap_append]; simp
theorem pofL_app (a b : List UInt8) : ofL (a ++ b) = ofL a ++ ofL b := by
  apply toL_inj
  simp [toL, ofL]

theorem IsH.keep {w w' : World} {b : Nat} {m : List UInt8} (h : IsH w b m) (hb : Below w.heap.size w w') : IsH w' b m := by
  have hlt := isH_two h
  obtain ⟨p, h1, h2, h3⟩ := h
  exact ⟨p, h1, h2, (hb.block b hlt).trans h3⟩
theorem IsH.len {w : World} {b : Nat} {m : List UInt8} (h : IsH w b m) : Calls Try.prog 28 #[.pointer (some ⟨b, 0, none⟩)] w fun e w' => e = .returned (.int .i64 (m.length : Nat)) ∧ w' = w := by
  obtain ⟨p, _, _, h3⟩ := h
  exact len_n b m.length w (hash_n (rest_ok m) h3)

set_option maxHeartbeats 1000000 in
theorem write_nil (V : Value) (w : World) : Calls Try.prog 26 #[.pointer none, V] w fun e w' => e = .returned (.tuple #[]) ∧ w' = w := by
  go_enter Try.func26, Try.ntmps26
  go_wp2_with fail
  refine bodyPost_ret (v := .tuple #[]) (by simp [results, Try.results26, go_sem]) rfl ⟨rfl, rfl⟩
theorem conv_mark (W : World) (b : Nat) (cs : Array Value) (t : TypeId) (h : W.heap[b]? = some (.cells cs t (0, 0))) :
    ∃ w2, (convert 22 22 (.slice (some ⟨b, 0, none⟩) 1 1)).run Try.prog W = .ok (.slice (some ⟨b, 0, none⟩) 1 1) w2 ∧ Below b W w2 := by
  have hs : W.shape? b = some (t, cs.size) := by unfold World.shape?; rw [h]
  refine ⟨W.freeze ⟨b, cs.size, none⟩ 1, ?_, Lib.below_freeze (B := b) (Below.refl b W) (p := ⟨b, cs.size, none⟩) (Nat.le_refl b) 1⟩
  simp [convert, run_underlying Try.underlying22, run_underlying Try.underlying5, markStringish, hs]

set_option maxHeartbeats 4000000 in
theorem pieces_law (A : Option Addr) (l : List Sl) (c : Nat) (w : World) (hA : RdS w w.heap.size A l) :
    Calls Try.prog 5 #[.slice A l.length c] w fun e w' => e = .returned (.bool true) ∧ Below w.heap.size w w' := by
  by_cases h20 : (20 : Int) < l.length
  · clear hA
    go_enter Try.func5, Try.ntmps5
    go_wp2_with fail
    refine (awake_any _).mono ?_
    rintro e w9 ⟨rfl, hB9⟩
    go_wp2_with fail
    exact bodyPost_ret (results_tmp rfl _ _ _) rfl ⟨rfl, hB9⟩
  have hn : (l.length : Int) ≤ 20 := by omega
  have hB0 : Below w.heap.size w (w.alloc (.cells (hashRow (0, 0) (List.replicate 8 0) 0) 62)) := (Below.refl _ w).alloc (Nat.le_refl _) _
  have r0 := World.alloc_heap_new w (Obj.cells (hashRow (0, 0) (List.replicate 8 0) 0) 62)
  have hI0 : IsH (w.alloc (.cells (hashRow (0, 0) (List.replicate 8 0) 0) 62)) w.heap.size [] := ⟨(0, 0), ⟨by decide, by decide⟩, fun h => absurd rfl h, r0⟩
  clear r0 h20
  go_enter Try.func5, Try.ntmps5
  go_wp2_with fail
  go_loopw [2, 4, 5] (fun ret all i wr => ∃ k : Nat, k ≤ l.length ∧ i = .int .i64 k ∧ all = .string (ofL (flatS (l.take k))) ∧ Hid (IsH wr w.heap.size (flatS (l.take k))) ∧ Hid ((flatS (l.take k)).length ≤ 40 * k) ∧ Below w.heap.size w wr) (fun _ _ i _ => l.length - (intOf i).toNat)
  case atStart => exact ⟨0, Nat.zero_le _, rfl, rfl, hide hI0, hide (by simp [flatS]), hB0⟩
  case round =>
    clear hI0 hB0
    obtain ⟨k, hk, rfl, rfl, HI, HL, hB⟩ := hrel
    by_cases hlt : (k : Int) < l.length
    · have hkl : k < l.length := by omega
      obtain ⟨ad, rfl, _, hc, hRx, hcx⟩ := (hA.below hB (Nat.le_refl _)) k _ (List.getElem?_eq_getElem hkl)
      have HM := hide (flatS_more l k hkl)
      have HX0 := hide (List.getElem?_eq_getElem hkl)
      generalize l[k] = x at hc HM hRx hcx HX0
      obtain ⟨xa, xl, xc⟩ := x
      have HX := hide HX0.out
      clear HX0
      simp only [Nat.mul_one] at hc HM hRx hcx
      by_cases h40 : (40 : Int) < xl.length
      · go_wp2_with fail
        refine (awake_any _).mono ?_
        rintro e w9 ⟨rfl, hB9⟩
        have hBz := hB.trans (hB9.mono hB.size)
        go_wp2_with fail
        exact bodyPost_ret (results_tmp rfl _ _ _) rfl ⟨rfl, hBz⟩
      · have hk1 : k ≤ 20 := by omega
        have hlen : (flatS (l.take k)).length + xl.length ≤ 1000000 := by have := HL.out; omega
        have HW := hide (write_any w.heap.size (flatS (l.take k)) xa xl xc wr HI.out (hRx.mono (Nat.le_refl _)) hcx hlen)
        rw [← HM.out] at HW
        have hx40 : (xl.length : Int) ≤ 40 := by omega
        go_wp2_with fail
        refine HW.out.mono ?_
        rintro e w2 ⟨rfl, HS, hG, hB2⟩
        have hB3 := hB.trans hB2
        obtain ⟨ad2, e2, _, hc2, hRx2, _⟩ := (hA.below hB3 (Nat.le_refl _)) k (xa, xl, xc) HX.out
        obtain rfl : ad = ad2 := by cases e2; rfl
        simp only [Nat.mul_one] at hc2 hRx2
        have hcv := conv_any hRx2 xc
        have hml : (flatS (l.take (k + 1))).length ≤ 40 * (k + 1) := by rw [HM.out, List.length_append]; have := HL.out; omega
        have hsz : ¬ 9223372036854775807 < (ofL (flatS (l.take k))).size + (ofL xl).size := by rw [ofL_size, ofL_size]; have := HL.out; omega
        have HS1 := hide HS.isH
        have HSum := hide (hashSum_any w.heap.size _ w2 HS.isH (by omega))
        have HRef := hide (fun W => refOf_any (flatS (l.take (k + 1))) W (by omega))
        have hall : ofL (flatS (l.take k)) ++ ofL xl = ofL (flatS (l.take (k + 1))) := by rw [HM.out, pofL_app]
        have HM2 := hide (ofL_size (flatS (l.take (k + 1))))
        have HML := hide hml
        simp only [show ∀ p : Nat × Nat, stV p = .agg #[.int .u64 (p.1 : Nat), .int .u64 (p.2 : Nat)] from fun _ => rfl] at HSum HRef
        obtain ⟨q, hq⟩ : ∃ q, q = sumL (flatS (l.take (k + 1))) := ⟨_, rfl⟩
        rw [← hq] at HSum HRef
        clear hq
        clear HS HW hc hRx hcx hB hB2 hG HM HL HI hlen hml e2 hRx2
        go_wp2_with fail
        refine HSum.out.mono ?_
        rintro e w4 ⟨rfl, hB4⟩
        have hI4 := HS1.out.keep hB4
        have hB5 := hB3.trans (hB4.mono hB3.size)
        clear HSum HS1 hB3 hB4 hc2 hcv
        clear hall
        go_wp2_with fail
        refine (HRef.out _).mono ?_
        rintro e w5 ⟨rfl, hB6⟩
        have hI5 := hI4.keep hB6
        have hB7 := hB5.trans (hB6.mono hB5.size)
        have HLen := hide hI5.len
        have HI5 := hide hI5
        clear HRef hI4 hI5 hB5 hB6
        go_wp2_with fail
        refine HLen.out.mono ?_
        rintro e w6 ⟨rfl, rfl⟩
        have hz : ((ofL (flatS (l.take (k + 1)))).size : Int) = ((flatS (l.take (k + 1))).length : Int) := by rw [HM2.out]
        have hz2 : (((flatS (l.take (k + 1))).length : Int) != ((ofL (flatS (l.take (k + 1)))).size : Int)) = false := by rw [bne_eq_false_iff_eq]; exact hz.symm
        clear hz
        go_wp2_with fail
        go_roundw
        case rel => exact ⟨k + 1, hkl, rfl, rfl, HI5, HML, hB7⟩
        case measure => simp [intOf]; omega
    · obtain rfl : k = l.length := by omega
      rw [List.take_length] at HI HL ⊢
      have hml : (flatS l).length ≤ 1000000 := by have := HL.out; omega
      have HSum := hide (fun W h => hashSum_any w.heap.size (flatS l) W h hml)
      have HRef := hide (fun W => refOf_any (flatS l) W hml)
      have HN := hide (fun W => hashSum_nil W)
      have HRN := hide (fun W => (show Calls Try.prog 23 #[.string ⟨#[]⟩] W fun e w' => e = .returned (stV (sumL [])) ∧ Below W.heap.size W w' from refOf_any [] W (by decide)))
      simp only [show ∀ p : Nat × Nat, stV p = .agg #[.int .u64 (p.1 : Nat), .int .u64 (p.2 : Nat)] from fun _ => rfl] at HSum HRef HN HRN
      obtain ⟨q, hq⟩ : ∃ q, q = sumL (flatS l) := ⟨_, rfl⟩
      obtain ⟨q0, hq0⟩ : ∃ q0, q0 = sumL [] := ⟨_, rfl⟩
      rw [← hq] at HSum HRef
      rw [← hq0] at HN HRN
      clear hq hq0
      generalize ofL (flatS l) = y at HRef ⊢
      clear hml HL hA hk hlt
      obtain ⟨w1, hcc, hBc⟩ := conv_mark (wr.alloc (.cells #[.int .u8 97] 5)) wr.heap.size _ _ (World.alloc_heap_new wr _)
      have hBw : Below wr.heap.size wr w1 := ((Below.refl _ wr).alloc (Nat.le_refl _) (.cells #[.int .u8 97] 5)).trans hBc
      have hI1 := HI.out.keep hBw
      have hB1 := hB.trans (hBw.mono hB.size)
      clear hBc hBw
      clear HI hB
      go_wp2_with fail
      refine (write_nil _ _).mono ?_
      rintro e w2 ⟨rfl, rfl⟩
      clear hcc
      go_wp2_with fail
      refine (awake_any _).mono ?_
      rintro e w2 ⟨rfl, hB2⟩
      have hI2 := hI1.keep hB2
      have hB3 := hB1.trans (hB2.mono hB1.size)
      clear hI1 hB1 hB2
      go_wp2_with fail
      refine (HSum.out _ hI2).mono ?_
      rintro e w3 ⟨rfl, hB4⟩
      have hB5 := hB3.trans (hB4.mono hB3.size)
      clear hI2 hB3 hB4 HSum
      go_wp2_with fail
      refine (HRef.out _).mono ?_
      rintro e w4 ⟨rfl, hB6⟩
      have hB7 := hB5.trans (hB6.mono hB5.size)
      clear hB5 hB6 HRef
      go_wp2_with fail
      refine (HN.out _).mono ?_
      rintro e w5 ⟨rfl, hB8⟩
      have hB9 := hB7.trans (hB8.mono hB7.size)
      clear hB7 hB8 HN
      go_wp2_with fail
      refine (HRN.out _).mono ?_
      rintro e w6 ⟨rfl, hB10⟩
      have hB11 := hB9.trans (hB10.mono hB9.size)
      clear hB9 hB10 HRN
      go_wp2_with fail
      refine (len_nil _).mono ?_
      rintro e w7 ⟨rfl, rfl⟩
      go_wp2_with fail
      exact bodyPost_ret (results_tmp rfl _ _ _) rfl ⟨rfl, hB11⟩
end Go.Proofs.Ytffhkdbdcpobbaa
