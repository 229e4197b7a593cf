/-
  Texts that belong together: RollMath, RollGrow, RollOf.
-/
import Derived.WalkKit
import Derived.Test.YtobgbheodlpclaaAutoBytes
/-
  Weak sums, as numbers.
-/
namespace Go.Proofs.Ytobgbheodlpclaa

/-- The sum of bytes. -/
def sA : List UInt8 → Nat
  | [] => 0
  | x :: l => x.toNat + sA l
/-- The sum of each, times how many there are from it on, the first of which is the last but n - 1. -/
def sB : Nat → List UInt8 → Nat
  | _, [] => 0
  | n, x :: l => n * x.toNat + sB (n - 1) l
/-- The weak sum. -/
def weakN (l : List UInt8) : Nat := sA l % 65536 + sB l.length l % 65536 * 65536
theorem weakN_lt (l : List UInt8) : weakN l < 4294967296 := by unfold weakN; omega
theorem sA_app (a b : List UInt8) : sA (a ++ b) = sA a + sA b := by
  induction a with
  | nil => simp [sA]
  | cons x a ih => simp only [List.cons_append, sA, ih]; omega
theorem sB_app (a b : List UInt8) : ∀ n, sB n (a ++ b) = sB n a + sB (n - a.length) b := by
  induction a with
  | nil => intro n; simp [sB]
  | cons x a ih =>
    intro n
    simp only [List.cons_append, sB, ih, List.length_cons]
    rw [show n - 1 - a.length = n - (a.length + 1) by omega]; omega
theorem sB_up (l : List UInt8) (k : Nat) : ∀ n, l.length ≤ n → sB (n + k) l = sB n l + k * sA l := by
  induction l with
  | nil => intro n _; simp [sB, sA]
  | cons x l ih =>
    intro n h
    simp only [List.length_cons] at h
    have e := ih (n - 1) (by omega)
    simp only [sB, sA]
    rw [show n + k - 1 = n - 1 + k by omega, e, Nat.add_mul, Nat.mul_add]; omega
theorem sA_snoc (l : List UInt8) (x : UInt8) : sA (l ++ [x]) = sA l + x.toNat := by rw [sA_app]; simp [sA]
theorem sB_snoc (l : List UInt8) (x : UInt8) : sB (l ++ [x]).length (l ++ [x]) = sB l.length l + sA l + x.toNat := by
  rw [sB_app, List.length_append, List.length_singleton, sB_up l 1 l.length (Nat.le_refl _)]
  simp [sB]
theorem sB_both (a b : List UInt8) : sB (a ++ b).length (a ++ b) = sB a.length a + b.length * sA a + sB b.length b := by
  rw [sB_app, List.length_append, sB_up a b.length a.length (Nat.le_refl _), show a.length + b.length - a.length = b.length by omega]
theorem weak_low (l : List UInt8) : weakN l % 65536 = sA l % 65536 := by unfold weakN; omega
theorem weak_high (l : List UInt8) : weakN l / 65536 = sB l.length l % 65536 := by unfold weakN; omega
/-- Half sums, put together. -/
def joinN (p q : Nat) : Nat := p % 65536 + q % 65536 * 65536
theorem weak_grow (l : List UInt8) (x : UInt8) : weakN (l ++ [x]) = joinN (weakN l % 65536 + x.toNat) (weakN l / 65536 + (weakN l % 65536 + x.toNat)) := by
  rw [weak_low, weak_high]
  unfold weakN joinN
  rw [sA_snoc, sB_snoc]
  omega
theorem weak_both (a b : List UInt8) : weakN (a ++ b) = joinN (weakN a % 65536 + weakN b % 65536) (weakN a / 65536 + b.length * (weakN a % 65536) + weakN b / 65536) := by
  rw [weak_low, weak_low, weak_high, weak_high]
  unfold weakN joinN
  rw [sA_app, sB_both]
  have h : (b.length * (sA a % 65536)) % 65536 = (b.length * sA a) % 65536 := by rw [Nat.mul_mod, Nat.mod_mod, ← Nat.mul_mod]
  generalize b.length * (sA a % 65536) = u at h ⊢
  generalize b.length * sA a = v at h ⊢
  omega
/-- What is left when the first byte has gone: its half sums, as u32 has them. -/
theorem weak_rest (l : List UInt8) (x : UInt8) (c : Nat) (hc : c = (l.length + 1) * x.toNat) (hl : c < 4294967296) : (joinN ((weakN (x :: l) % 65536 + 4294967296 - x.toNat) % 4294967296) ((weakN (x :: l) / 65536 + 4294967296 - c) % 4294967296)) = weakN l := by
  rw [weak_low, weak_high]
  have hx := x.toNat_lt
  unfold weakN joinN
  simp only [sA, sB, List.length_cons, Nat.add_sub_cancel]
  rw [← hc]
  omega
end Go.Proofs.Ytobgbheodlpclaa
/-
  roll.Grow.
-/
namespace Go.Proofs.Ytobgbheodlpclaa
open Go.RowKit
set_option maxRecDepth 100000

theorem grow1_any (a b x g : Nat) (w : World) (ha : a < 65536) (hb : b < 65536) (hx : x < 256) (hc : w.cell? ⟨g, 0, none⟩ = some (.int .u8 x)) :
    Calls Try.prog 124 #[.int .u32 a, .int .u32 b, .pointer (some ⟨g, 0, none⟩)] w fun e w' => e = .returned (.tuple #[.int .u32 ((a + x : Nat) : Int), .int .u32 ((b + (a + x) : Nat) : Int)]) ∧ w' = w := by
  have h1 : (a : Int) < 65536 := by omega
  have h2 : (b : Int) < 65536 := by omega
  have h3 : (x : Int) < 256 := by omega
  go_enter Try.func124, Try.ntmps124
  go_wp2_with fail
  exact bodyPost_ret (results_tmp2 rfl _ _ _) rfl ⟨by simp, rfl⟩

set_option maxHeartbeats 1000000 in
theorem onGrow_any (s p q : Nat) (c : Array Value) (w : World) (hs : s < 4294967296) (hp : p < 4294967296) (hq : q < 4294967296)
    (h : Calls Try.prog 124 (#[.int .u32 ((s : Int) % 65536), .int .u32 ((s : Int) / 65536)] ++ c) w fun e w' => e = .returned (.tuple #[.int .u32 p, .int .u32 q]) ∧ Below w.heap.size w w') :
    Calls Try.prog 123 #[.int .u32 s, .func (.func 124) #[] c] w fun e w' => e = .returned (.int .u32 (joinN p q : Nat)) ∧ Below w.heap.size w w' := by
  have hsi : (s : Int) < 4294967296 := by omega
  have hpi : (p : Int) < 4294967296 := by omega
  have hqi : (q : Int) < 4294967296 := by omega
  have hj : ((joinN p q : Nat) : Int) = (p : Int) % 65536 + (q : Int) % 65536 * 65536 := by unfold joinN; omega
  obtain ⟨j, hj'⟩ : ∃ j, j = joinN p q := ⟨_, rfl⟩
  rw [← hj'] at hj ⊢
  clear hj'
  have HJ := hide hj
  have HP := hide h
  clear h hj
  go_enter Try.func123, Try.ntmps123
  go_wp2_with fail
  refine HP.out.mono ?_
  rintro e w2 ⟨rfl, hB⟩
  go_wp2_with fail
  exact bodyPost_ret (results_tmp rfl _ _ _) rfl ⟨by rw [HJ.out]; rfl, hB⟩

theorem box_row (w : World) (v : Value) (t : TypeId) : (w.alloc (.cells #[v] t)).cell? ⟨w.heap.size, 0, none⟩ = some v := cell_of_row _ _ _ _ _ _ (World.alloc_heap_new w (Obj.cells #[v] t))
theorem box_below (w : World) (v : Value) (t : TypeId) : Below w.heap.size w (w.alloc (.cells #[v] t)) := (Below.refl _ w).alloc (Nat.le_refl _) _

set_option maxHeartbeats 1000000 in
theorem rgrow_any (l : List UInt8) (x : UInt8) (w : World) :
    Calls Try.prog 104 #[.int .u32 (weakN l : Nat), .int .u8 x.toNat] w fun e w' => e = .returned (.int .u32 (weakN (l ++ [x]) : Nat)) ∧ Below w.heap.size w w' := by
  have hs := weakN_lt l
  have hx := x.toNat_lt
  have h1 : weakN l % 65536 < 65536 := Nat.mod_lt _ (by decide)
  have h2 : weakN l / 65536 < 65536 := by omega
  have HW := hide (weak_grow l x)
  have hC := grow1_any (weakN l % 65536) (weakN l / 65536) x.toNat w.heap.size (w.alloc (.cells #[.int .u8 x.toNat] 5)) h1 h2 hx (box_row _ _ _)
  have HO := hide (onGrow_any (weakN l) (weakN l % 65536 + x.toNat) (weakN l / 65536 + (weakN l % 65536 + x.toNat)) #[.pointer (some ⟨w.heap.size, 0, none⟩)] (w.alloc (.cells #[.int .u8 x.toNat] 5)) hs (by omega) (by omega)
    (hC.mono fun e w' h => ⟨h.1, h.2 ▸ Below.refl _ _⟩))
  rw [← HW.out] at HO
  clear hC HW h1 h2
  obtain ⟨j, hj⟩ : ∃ j, j = weakN (l ++ [x]) := ⟨_, rfl⟩
  rw [← hj] at HO ⊢
  clear hj
  generalize weakN l = s at HO hs ⊢
  generalize x.toNat = xn at HO hx ⊢
  go_enter Try.func104, Try.ntmps104
  go_wp2_with fail
  refine HO.out.mono ?_
  rintro e w2 ⟨rfl, hB⟩
  go_wp2_with fail
  exact bodyPost_ret (results_tmp rfl _ _ _) rfl ⟨rfl, (box_below w _ _).trans (hB.mono (by simp))⟩
end Go.Proofs.Ytobgbheodlpclaa
/-
  roll.Of; the reference's Of; awake.
-/
namespace Go.Proofs.Ytobgbheodlpclaa
open Go.RowKit
set_option maxRecDepth 100000

theorem rofL_size (l : List UInt8) : (ofL l).size = l.length := by simp [ofL, ByteArray.size]
set_option maxHeartbeats 2000000 in
theorem rollOf_any (A : Option Addr) (l : List UInt8) (c : Nat) (w : World) (hR : RdB w w.heap.size A l) (hl : l.length ≤ 1000000) :
    Calls Try.prog 69 #[.slice A l.length c] w fun e w' => e = .returned (.int .u32 (weakN l : Nat)) ∧ Below w.heap.size w w' := by
  have hli : (l.length : Int) ≤ 1000000 := by omega
  have HR := hide hR
  clear hR
  go_enter Try.func69, Try.ntmps69
  go_wp2_with fail
  go_loopw [3, 4, 7] (fun s _ i wr => ∃ k : Nat, k ≤ l.length ∧ i = .int .i64 k ∧ s = .int .u32 (weakN (l.take k) : Nat) ∧ Below w.heap.size w wr) (fun _ _ i _ => l.length - (intOf i).toNat)
  case atStart => exact ⟨0, Nat.zero_le _, rfl, by simp [weakN, sA, sB], Below.refl _ _⟩
  case round =>
    obtain ⟨k, hk, rfl, rfl, hB⟩ := hrel
    by_cases hlt : (k : Int) < l.length
    · have hkl : k < l.length := by omega
      obtain ⟨ad, rfl, _, hc⟩ := (HR.out.below hB (Nat.le_refl _)) k _ (List.getElem?_eq_getElem hkl)
      have HT := hide (List.take_append_getElem hkl)
      have HG := hide (rgrow_any (l.take k) l[k] wr)
      rw [HT.out] at HG
      generalize l[k] = x at hc HG HT
      have hcv : wr.cell? (ad.add k) = some (.int .u8 x.toNat) := hc
      have hx256 := x.toNat_lt
      clear hc
      generalize weakN (l.take k) = s0 at HG ⊢
      obtain ⟨s1, hs1⟩ : ∃ s1, s1 = weakN (l.take (k + 1)) := ⟨_, rfl⟩
      rw [← hs1] at HG
      have HS := hide hs1
      clear hs1
      go_wp2_with fail
      refine HG.out.mono ?_
      rintro e w3 ⟨rfl, hB3⟩
      have hB4 := hB.trans (hB3.mono hB.size)
      clear HG hB3 hB hcv
      go_wp2_with fail
      go_roundw
      case rel => exact ⟨k + 1, hkl, rfl, by rw [HS.out], hB4⟩
      case measure => simp [intOf]; omega
    · obtain rfl : k = l.length := by omega
      rw [List.take_length]
      go_wp2_with fail
      exact bodyPost_ret (results_tmp rfl _ _ _) rfl ⟨rfl, hB⟩

theorem sA_take (l : List UInt8) (k : Nat) (h : k < l.length) : sA (l.take (k + 1)) = sA (l.take k) + (l[k]).toNat := by
  rw [← List.take_append_getElem h, sA_snoc]
theorem sB_take (n : Nat) (l : List UInt8) (k : Nat) (h : k < l.length) : sB n (l.take (k + 1)) = sB n (l.take k) + (n - k) * (l[k]).toNat := by
  rw [← List.take_append_getElem h, sB_app]
  simp [sB, Nat.min_eq_left (Nat.le_of_lt h)]

set_option maxHeartbeats 4000000 in
theorem refWeak_any (l : List UInt8) (w : World) (hl : l.length ≤ 1000000) :
    Calls Try.prog 71 #[.string (ofL l)] w fun e w' => e = .returned (.int .u32 (weakN l : Nat)) ∧ w' = w := by
  have hsz := rofL_size l
  go_enter Try.func71, Try.ntmps71
  go_wp2_with fail
  go_loopw [3, 4, 5] (fun a b i wr => ∃ k p q : Nat, k ≤ l.length ∧ i = .int .i64 k ∧ a = .int .u32 p ∧ b = .int .u32 q ∧ p < 65536 ∧ q < 65536 ∧ Hid (p = sA (l.take k) % 65536) ∧ Hid (q = sB l.length (l.take k) % 65536) ∧ wr = w) (fun _ _ i _ => l.length - (intOf i).toNat)
  case atStart => exact ⟨0, 0, 0, Nat.zero_le _, rfl, rfl, rfl, by decide, by decide, hide rfl, hide rfl, rfl⟩
  case round =>
    obtain ⟨k, p, q, hk, rfl, rfl, rfl, hp, hq, HP, HQ, rfl⟩ := hrel
    have hpi : (p : Int) < 65536 := by omega
    have hqi : (q : Int) < 65536 := by omega
    by_cases hlt : (k : Int) < (ofL l).size
    · have hkl : k < l.length := by omega
      have H1 := hide (sA_take l k hkl)
      have H2 := hide (sB_take l.length l k hkl)
      have hxg : (ofL l)[k]'(by omega) = l[k] := by simp [ofL, ByteArray.getElem_eq_getElem_data]
      generalize l[k] = x at H1 H2 hxg
      have hx256 := x.toNat_lt
      generalize hxn : x.toNat = xn at H1 H2 hx256
      have hxi : (xn : Int) < 256 := by omega
      obtain ⟨d, hd⟩ : ∃ d, d = l.length - k := ⟨_, rfl⟩
      have hdz : (l.length : Int) - (k : Int) = (d : Int) := by omega
      have hd0 : (d : Int) ≤ 1000000 := by omega
      obtain ⟨m, hm⟩ : ∃ m, m = d % 65536 * xn := ⟨_, rfl⟩
      have hmb : m ≤ 65535 * 255 := by rw [hm]; exact Nat.mul_le_mul (by omega) (by omega)
      have hmi : (m : Int) ≤ 16711425 := by omega
      have hmz : ((d : Int) % 65536) * (xn : Int) = (m : Int) := by rw [hm]; simp
      have HE1 := hide (show (p + xn) % 65536 = sA (l.take (k + 1)) % 65536 by rw [H1.out, HP.out]; omega)
      have HE2 := hide (show (q + m) % 65536 = sB l.length (l.take (k + 1)) % 65536 by
        rw [H2.out, HQ.out, ← hd, hm]
        have h := Nat.mul_mod d xn 65536
        have h2 := Nat.mul_mod (d % 65536) xn 65536
        rw [Nat.mod_mod] at h2
        rw [← h2] at h
        omega)
      clear hd hm hmb H1 H2 HP HQ
      go_wp2_with fail
      go_roundw
      case rel => exact ⟨k + 1, (p + xn) % 65536, (q + m) % 65536, hkl, rfl, rfl, rfl, Nat.mod_lt _ (by decide), Nat.mod_lt _ (by decide), HE1, HE2, trivial⟩
      case measure => simp [intOf]; omega
    · obtain rfl : k = l.length := by omega
      rw [List.take_length] at HP HQ
      have HJ := hide (show ((weakN l : Nat) : Int) = (p : Int) + 65536 * (q : Int) by unfold weakN; rw [← HP.out, ← HQ.out]; omega)
      go_wp2_with fail
      exact bodyPost_ret (results_tmp rfl _ _ _) rfl ⟨by rw [HJ.out]; rfl, rfl⟩
end Go.Proofs.Ytobgbheodlpclaa
