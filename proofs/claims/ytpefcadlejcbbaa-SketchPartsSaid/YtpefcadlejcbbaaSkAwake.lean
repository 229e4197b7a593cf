/-
  sketch's example: awake.
-/
import Derived.Test.YtpefcadlejcbbaaSkOf
import Derived.Lib.UnsafeStr
namespace Go.Proofs.Ytpefcadlejcbbaa
open Go.RowKit
set_option maxRecDepth 100000

theorem conv_markn (W : World) (b n : Nat) (cs : Array Value) (t : TypeId) (h : W.heap[b]? = some (.cells cs t (0, 0))) :
    ∃ w2, (convert 22 22 (.slice (some ⟨b, 0, none⟩) n n)).run Try.prog W = .ok (.slice (some ⟨b, 0, none⟩) n n) w2 ∧ Below b W w2 ∧ w2.heap[b]? = some (.cells cs t (cs.size, cs.size + 1)) ∧ w2.heap.size = W.heap.size := by
  have hs : W.shape? b = some (t, cs.size) := by unfold World.shape?; rw [h]
  refine ⟨W.freeze ⟨b, cs.size, none⟩ 1, ?_, Lib.below_freeze (B := b) (Below.refl b W) (p := ⟨b, cs.size, none⟩) (Nat.le_refl b) 1, ?_, by simp [World.freeze]⟩
  · simp [convert, run_underlying Try.underlying22, run_underlying Try.underlying5, markStringish, hs]
  · simp [World.freeze, Array.getElem?_modify, h]
theorem arow_any {W : World} {g : Nat} {l : List UInt8} {t : TypeId} {fz : Nat × Nat} (h : W.heap[g]? = some (.cells (l.map byteV).toArray t fz)) : RdB W W.heap.size (some ⟨g, 0, none⟩) l := fun k x hx => by
  refine ⟨_, rfl, (Array.getElem?_eq_some_iff.1 h).1, ?_⟩
  have e : ((⟨g, 0, none⟩ : Addr).add k) = ⟨g, k, none⟩ := by unfold Addr.add; split <;> simp_all
  rw [e]
  unfold World.cell?
  rw [h]
  simp [hx]
def textA : List UInt8 := [97, 98, 99, 97, 98, 99, 97, 98, 99]
def textB : List UInt8 := [98, 99, 97, 98, 99, 97, 98]
theorem alike_ex : sameTo (sketchL (shL textA)) (sketchL (shL textB)) 8 = 8 := by decide +kernel
theorem none_ex : sketchL (shL []) = [18446744073709551615, 18446744073709551615, 18446744073709551615, 18446744073709551615, 18446744073709551615, 18446744073709551615, 18446744073709551615, 18446744073709551615] := by decide +kernel
/-- A constant text, laid anew as bytes. -/
theorem laid_text (l : List UInt8) (W : World) (V : Array Value) (hV : (l.map byteV).toArray = V) :
    ∃ w2, (convert 22 22 (.slice (some ⟨W.heap.size, 0, none⟩) l.length l.length)).run Try.prog (W.alloc (.cells V 5)) = .ok (.slice (some ⟨W.heap.size, 0, none⟩) l.length l.length) w2 ∧ Below W.heap.size W w2 ∧ RdB w2 w2.heap.size (some ⟨W.heap.size, 0, none⟩) l := by
  subst hV
  have hn1 := World.alloc_heap_new W (Obj.cells (l.map byteV).toArray 5)
  have hB1 := (Below.refl _ W).alloc (Nat.le_refl _) (Obj.cells (l.map byteV).toArray 5)
  obtain ⟨w2, hcv, hB2, hrow, _⟩ := conv_markn _ W.heap.size l.length _ _ hn1
  exact ⟨w2, hcv, hB1.trans hB2, arow_any hrow⟩

set_option maxHeartbeats 4000000 in
theorem skAwake_any (w : World) : Calls Try.prog 8 #[] w fun e w' => e = .returned (.bool true) ∧ Below w.heap.size w w' := by
  have HA := hide (fun W : World => laid_text textA W #[.int .u8 97, .int .u8 98, .int .u8 99, .int .u8 97, .int .u8 98, .int .u8 99, .int .u8 97, .int .u8 98, .int .u8 99] rfl)
  have HB := hide (fun W : World => laid_text textB W #[.int .u8 98, .int .u8 99, .int .u8 97, .int .u8 98, .int .u8 99, .int .u8 97, .int .u8 98] rfl)
  have HO := hide (fun (W : World) (g : Nat) (h : RdB W W.heap.size (some ⟨g, 0, none⟩) textA) => of_any (some ⟨g, 0, none⟩) textA 9 W h (by decide) (by decide))
  have HP := hide (fun (W : World) (g : Nat) (h : RdB W W.heap.size (some ⟨g, 0, none⟩) textB) => of_any (some ⟨g, 0, none⟩) textB 7 W h (by decide) (by decide))
  have HN := hide (fun W : World => (show Calls Try.prog 11 #[.slice none 0 0] W fun e w' => e = .returned (.agg #[.int .u64 18446744073709551615, .int .u64 18446744073709551615, .int .u64 18446744073709551615, .int .u64 18446744073709551615, .int .u64 18446744073709551615, .int .u64 18446744073709551615, .int .u64 18446744073709551615, .int .u64 18446744073709551615]) ∧ Below W.heap.size W w' from by
    have h := of_any none [] 0 W (RdB.nil _ _ _) (Nat.le_refl _) (by decide)
    rw [none_ex] at h
    exact h))
  have HL := hide (fun W : World => alike_any (sketchL (shL textA)) (sketchL (shL textB)) W (sketchL_len _) (sketchL_len _))
  rw [alike_ex] at HL
  generalize sketchL (shL textA) = s1 at HO HL
  generalize sketchL (shL textB) = s2 at HP HL
  have hix : ∀ W : World, (Instr.index 30 (.agg #[.int .u64 18446744073709551615, .int .u64 18446744073709551615, .int .u64 18446744073709551615, .int .u64 18446744073709551615, .int .u64 18446744073709551615, .int .u64 18446744073709551615, .int .u64 18446744073709551615, .int .u64 18446744073709551615]) (.int .i64 0)).run Try.prog W = .ok (.int .u64 18446744073709551615) W := fun W => by kernel_rfl
  obtain ⟨w2, hcv, hB2, hR2⟩ := HA.out w
  have hcv : (convert 22 22 (.slice (some ⟨w.heap.size, 0, none⟩) 9 9)).run Try.prog (w.alloc (.cells #[.int .u8 97, .int .u8 98, .int .u8 99, .int .u8 97, .int .u8 98, .int .u8 99, .int .u8 97, .int .u8 98, .int .u8 99] 5)) = .ok (.slice (some ⟨w.heap.size, 0, none⟩) 9 9) w2 := hcv
  have HO2 := hide (HO.out w2 _ hR2)
  have HB2 := hide hB2
  clear HA HO hB2 hR2
  go_enter Try.func8, Try.ntmps8
  go_wp2_with fail
  refine HO2.out.mono ?_
  rintro e w3 ⟨rfl, hB3⟩
  clear HO2 hcv
  have HB3 := hide (HB2.out.trans (hB3.mono HB2.out.size))
  obtain ⟨w4, hcv, hB4, hR4⟩ := HB.out w3
  have hcv : (convert 22 22 (.slice (some ⟨w3.heap.size, 0, none⟩) 7 7)).run Try.prog (w3.alloc (.cells #[.int .u8 98, .int .u8 99, .int .u8 97, .int .u8 98, .int .u8 99, .int .u8 97, .int .u8 98] 5)) = .ok (.slice (some ⟨w3.heap.size, 0, none⟩) 7 7) w4 := hcv
  have HP2 := hide (HP.out w4 _ hR4)
  have HB4 := hide (HB3.out.trans (hB4.mono HB3.out.size))
  clear HP hB3 hB4 hR4 HB HB2
  go_wp2_with fail
  refine HP2.out.mono ?_
  rintro e w5 ⟨rfl, hB5⟩
  have HB5 := hide (HB4.out.trans (hB5.mono HB4.out.size))
  clear HP2 hcv hB5 HB4 HB3
  go_wp2_with fail
  refine (HL.out w5).mono ?_
  rintro e w6 ⟨rfl, hB6⟩
  have HB6 := hide (HB5.out.trans (hB6.mono HB5.out.size))
  clear HL hB6 HB5
  go_wp2_with fail
  refine (HN.out _).mono ?_
  rintro e w7 ⟨rfl, hB7⟩
  have HB7 := hide (HB6.out.trans (hB7.mono HB6.out.size))
  clear HN hB7 HB6
  go_wp2_with fail
  exact bodyPost_ret (results_tmp rfl _ _ _) rfl ⟨rfl, HB7.out⟩
end Go.Proofs.Ytpefcadlejcbbaa
