/-
  crc.half, More; the reference's More.
-/
import Derived.Test.YtlbhgebjmekclaaDoorBytes
import Derived.Test.YtlbhgebjmekclaaDoorCrcMath
import Derived.Laws.BitsAllLaws
namespace Go.Proofs.YtlbhgebjmekclaaDoor
open Go.RowKit
set_option maxRecDepth 100000

/-- The table lies in the first block. -/
def Table (w : World) : Prop := ∀ k x, halvesL[k]? = some x → w.cell? ⟨0, k, none⟩ = some (.int .u32 (x : Nat))
theorem Table.keep {w w' : World} {B : Nat} (h : Table w) (hb : Below B w w') (hB : 0 < B) : Table w' := fun k x hx => (hb.cell (p := ⟨0, k, none⟩) hB).trans (h k x hx)
theorem halves_lt : ∀ k : Fin 16, halvesL.getD k.val 0 < 4294967296 := by decide +kernel

set_option maxHeartbeats 1000000 in
theorem half_any (s : Nat) (w : World) (hs : s < 4294967296) (hT : Table w) :
    Calls Tryd.prog 56 #[.int .u32 s] w fun e w' => e = .returned (.int .u32 (halfN s : Nat)) ∧ w' = w := by
  have hlt := halves_lt ⟨s % 16, Nat.mod_lt _ (by decide)⟩
  have hget : halvesL[s % 16]? = some (halvesL.getD (s % 16) 0) := by
    have hl : s % 16 < halvesL.length := Nat.mod_lt _ (by decide)
    rw [List.getD_eq_getElem?_getD, List.getElem?_eq_getElem hl]; rfl
  have hc := hT _ _ hget
  have hx := u32_xor_nat (s / 16) (halvesL.getD (s % 16) 0) (by omega) hlt
  have HN := hide (show s / 16 ^^^ halvesL.getD (s % 16) 0 = halfN s from rfl)
  rw [HN.out] at hx
  generalize halvesL.getD (s % 16) 0 = h at hc hx
  clear hT hget hlt
  have e : ((s : Int) / 16) = ((s / 16 : Nat) : Int) := by simp
  rw [← e] at hx
  clear e
  go_enter Tryd.func56, Tryd.ntmps56
  go_wp2_with fail
  exact bodyPost_ret (results_tmp rfl _ _ _) rfl ⟨rfl, rfl⟩
theorem halfN_lt (s : Nat) (h : s < 4294967296) : halfN s < 4294967296 := by rw [half_bits]; exact bitsN_lt 4 s h
theorem xor32 (a b : Nat) (ha : a < 4294967296) (hb : b < 4294967296) : a ^^^ b < 4294967296 := Nat.xor_lt_two_pow (n := 32) ha hb
theorem moreN_lt (l : List UInt8) : ∀ s, s < 4294967296 → moreN s l < 4294967296 := by
  induction l with
  | nil => exact fun s h => h
  | cons x l ih =>
    intro s h
    have hx := x.toNat_lt
    exact ih _ (bitsN_lt 8 _ (xor32 _ _ h (by omega)))
theorem moreN_step (s : Nat) (l : List UInt8) (k : Nat) (h : k < l.length) : moreN s (l.take (k + 1)) = bitsN 8 (moreN s (l.take k) ^^^ (l[k]).toNat) := by
  unfold moreN
  rw [← List.take_append_getElem h, List.foldl_append]; rfl

set_option maxHeartbeats 2000000 in
theorem more_any (s : Nat) (A : Option Addr) (l : List UInt8) (c : Nat) (w : World) (hs : s < 4294967296) (hT : Table w) (hR : RdB w w.heap.size A l) (hl : l.length ≤ 1000000) :
    Calls Tryd.prog 49 #[.int .u32 s, .slice A l.length c] w fun e w' => e = .returned (.int .u32 (moreN s l : Nat)) ∧ w' = w := by
  have hli : (l.length : Int) ≤ 1000000 := by omega
  go_enter Tryd.func49, Tryd.ntmps49
  go_wp2_with fail
  go_loopw [0, 5, 8] (fun v _ i wr => ∃ k t : Nat, k ≤ l.length ∧ i = .int .i64 k ∧ Hid (t = moreN s (l.take k)) ∧ v = .int .u32 t ∧ wr = w) (fun _ _ i _ => l.length - (intOf i).toNat)
  case atStart => exact ⟨0, s, Nat.zero_le _, rfl, hide rfl, rfl, rfl⟩
  case round =>
    obtain ⟨k, t, hk, rfl, HM, rfl, rfl⟩ := hrel
    have ht : t < 4294967296 := by rw [HM.out]; exact moreN_lt _ s hs
    by_cases hlt : (k : Int) < l.length
    · have hkl : k < l.length := by omega
      obtain ⟨ad, rfl, _, hc⟩ := hR k _ (List.getElem?_eq_getElem hkl)
      have HS := hide (moreN_step s l k hkl)
      rw [← HM.out] at HS
      generalize l[k] = x at hc HS
      have hcv : wr.cell? (ad.add k) = some (.int .u8 x.toNat) := hc
      have hx256 := x.toNat_lt
      have hxr := u32_xor_nat t x.toNat ht (by omega)
      have hxl := xor32 t x.toNat ht (by omega)
      have h1 := half_any (t ^^^ x.toNat) wr hxl hT
      have h2 := half_any (halfN (t ^^^ x.toNat)) wr (halfN_lt _ hxl) hT
      rw [halves_byte] at h2
      have H1 := hide h1
      have H2 := hide h2
      clear h1 h2 hc hR
      generalize t ^^^ x.toNat = u at hxr hxl H1 H2 HS
      generalize halfN u = u2 at H1 H2
      obtain ⟨u3, hu3⟩ : ∃ u3, u3 = bitsN 8 u := ⟨_, rfl⟩
      rw [← hu3] at H2 HS
      clear hu3
      go_wp2_with fail
      refine H1.out.mono ?_
      rintro e w3 ⟨rfl, rfl⟩
      go_wp2_with fail
      refine H2.out.mono ?_
      rintro e w3 ⟨rfl, rfl⟩
      go_wp2_with fail
      go_roundw
      case rel => exact ⟨k + 1, u3, hkl, rfl, hide HS.out.symm, rfl, trivial⟩
      case measure => simp [intOf]; omega
    · obtain rfl : k = l.length := by omega
      rw [List.take_length] at HM
      go_wp2_with fail
      exact bodyPost_ret (results_tmp rfl _ _ _) rfl ⟨by rw [← HM.out]; rfl, rfl⟩
end Go.Proofs.YtlbhgebjmekclaaDoor
