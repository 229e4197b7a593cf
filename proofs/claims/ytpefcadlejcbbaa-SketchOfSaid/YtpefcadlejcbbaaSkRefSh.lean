/-
  The reference's Shingles.
-/
import Derived.Test.YtpefcadlejcbbaaSkRefOf
import Derived.Test.YtpefcadlejcbbaaSkShL
import Derived.Test.YtpefcadlejcbbaaBytes
namespace Go.Proofs.Ytpefcadlejcbbaa
open Go.RowKit
set_option maxRecDepth 100000

theorem RdW.own {w : World} {base n c : Nat} {e : TypeId} {A : Option Addr} {l : List Nat} (h : w.ownsRow base e 1 (.slice A n c) n (l.map uV)) : RdW w w.heap.size A l := fun k x hx => by
  rcases h.2 with ⟨hv, h0⟩ | ⟨g, cap, cur, hv, _, hg, _⟩
  · have := h.1
    rw [h0] at this
    simp at this
    subst this
    simp at hx
  · injection hv with hA
    subst hA
    refine ⟨_, rfl, (Array.getElem?_eq_some_iff.1 hg).1, h.cells (g := g) rfl k _ ?_⟩
    rw [List.getElem?_map, hx]; rfl
theorem info_word : (Try.prog.info? 29).map (fun i => (i.zero, i.size, i.bytes)) = some (some (.int .u64 0), 1, 8) := by kernel_rfl
theorem low_take (l : List UInt8) (i : Nat) (h : i < l.length) : lowL (l.take (i + 1)) = lowL (l.take i) + 256 ^ i * (l[i]).toNat := by
  rw [← List.take_append_getElem h, lowL_snoc, List.length_take, Nat.min_eq_left (by omega)]
theorem low_take_lt (l : List UInt8) (i : Nat) (h : i ≤ 4) : lowL (l.take i) < 4294967296 := by
  have h1 := lowL_lt (l.take i)
  have h2 : 256 ^ (l.take i).length ≤ 256 ^ 4 := Nat.pow_le_pow_right (by decide) (by rw [List.length_take]; omega)
  omega

/-- What the reference's Shingles answers. -/
def ShR (w0 : World) (v : List Nat) (e : Ending) (w' : World) : Prop :=
  ∃ A c, e = .returned (.slice A v.length c) ∧ RdW w' w'.heap.size A v ∧ (∀ ad, A = some ad → w0.heap.size ≤ ad.block) ∧ Below w0.heap.size w0 w'

set_option maxHeartbeats 4000000 in
theorem refSh_any (l : List UInt8) (w : World) (hl : l.length ≤ 40000) :
    Calls Try.prog 10 #[.string (ofL l)] w (ShR w (shL l)) := by
  obtain ⟨i0, hi, hz0, hz1, hz2⟩ := info_parts info_word
  have hll : (l.length : Int) ≤ 40000 := by omega
  obtain ⟨s, hs⟩ : ∃ s, s = ofL l := ⟨_, rfl⟩
  have hm : l.length = s.size := by rw [hs]; simp [ofL, ByteArray.size]
  have hget : ∀ (i : Nat) (h : i < s.size), s[i] = l[i]'(by rw [hm]; exact h) := by subst hs; exact fun i h => rfl
  rw [← hs]
  rw [hm] at hll
  have hl : (s.size : Int) ≤ 40000 := by omega
  clear hs hll
  go_enter Try.func10, Try.ntmps10
  by_cases hn : l = []
  · subst hn
    have hs0 : s.size = 0 := hm.symm
    have hsi : (s.size : Int) = 0 := by omega
    clear hget
    go_wp2_with fail
    go_loopw [4, 5] (fun v at_ wr => v = .slice none 0 0 ∧ at_ = .int .i64 0 ∧ wr = w) (fun _ _ _ => 0)
    case atStart => exact ⟨rfl, rfl, rfl⟩
    case round =>
      obtain ⟨rfl, rfl, rfl⟩ := hrel
      go_wp2_with fail
      exact bodyPost_ret (results_tmp rfl _ _ _) rfl ⟨none, 0, rfl, fun k x hx => by simp [shL] at hx, (fun ad h => by simp at h), Below.refl _ _⟩
  have hpos : 0 < l.length := List.length_pos_iff.2 hn
  by_cases h4 : s.size < 4
  · have h4i : (s.size : Int) < 4 := by omega
    have hN : ofN l = s.size := by unfold ofN; omega
    have hlen := hide (shL_len l hn)
    rw [hN] at hlen
    have hword := fun (i : Nat) (h : i + s.size ≤ s.size) => shAt_len l i (by rw [hN, hm]; exact h)
    have HS := hide hn
    go_wp2_with fail
    go_loopw [4, 5, 6, 7, 8] (fun v at_ _ _ _ wr => ∃ (i : Nat) (A : Option Addr) (c : Nat), at_ = .int .i64 i ∧ i + s.size ≤ s.size + 1 ∧ v = .slice A i c ∧ wr.ownsRow w.heap.size 29 1 v i (((shL l).take i).map uV) ∧ Below w.heap.size w wr) (fun _ at_ _ _ _ _ => s.size + 1 - (intOf at_).toNat)
    case atStart => exact ⟨0, none, 0, rfl, by omega, rfl, World.ownsRow_nil _ _ _ _, Below.refl _ _⟩
    case round =>
      obtain ⟨i, A, c, rfl, hi1, rfl, hO, hB⟩ := hrel
      have hsub : IntKind.i64.wrap ((s.size : Int) - (s.size : Int)) = (s.size : Int) - (s.size : Int) := IntWalk.i64_in _ (by omega)
      have hn0 : (0 : Int) < (s.size : Int) := by omega
      by_cases hlt : i + s.size ≤ s.size
      · have hT := hide (shL_take l i hn (by rw [hN, hm]; exact hlt))
        have hAl : (shAt l i).length = s.size := by rw [hword i hlt, hN]
        obtain rfl : i = 0 := by omega
        have HO := hide hO
        have HB := hide hB
        clear hO hB
        have HG := hide hget
        clear hget
        go_wp2_with fail
        go_loopw [6, 7, 8] (fun x u j wr2 => ∃ k v : Nat, k ≤ s.size ∧ j = .int .i64 k ∧ x = .int .u64 (lowL ((shAt l 0).take k) : Nat) ∧ v = 256 ^ k ∧ u = .int .u64 (v : Nat) ∧ wr2 = wr) (fun _ _ j _ => s.size - (intOf j).toNat)
        case atStart => exact ⟨0, 1, Nat.zero_le _, rfl, rfl, rfl, rfl, rfl⟩
        case round =>
          obtain ⟨k, v, hk, rfl, rfl, hv, rfl, rfl⟩ := hrel
          by_cases hkn : k < s.size
          · have hki : (k : Int) < (s.size : Int) := by omega
            have hget := HG.out
            have hqs : k < s.size := by omega
            have hx : ((shAt l 0)[k]'(by omega)) = s[k] := by
              rw [hget]
              unfold shAt
              rw [List.getElem_take, List.getElem_drop]
              simp only [Nat.zero_add]
            have hL := low_take (shAt l 0) k (by omega)
            rw [hx, ← hv] at hL
            have hb := s[k].toNat_lt
            have hv2 : v ≤ 16777216 := by
              rw [hv]
              exact Nat.pow_le_pow_right (n := 256) (by decide) (show k ≤ 3 by omega)
            have hl4 := low_take_lt (shAt l 0) (k + 1) (by omega)
            have hv4 : v * 256 = 256 ^ (k + 1) := by rw [hv, Nat.pow_succ]
            have hbi : ((s[k].toNat : Nat) : Int) ≤ 255 := by omega
            have hw0 : IntKind.u64.wrap ((s[k].toNat : Nat) : Int) = ((s[k].toNat : Nat) : Int) := by rw [IntKind.wrap_u64]; omega
            have hvx : v * s[k].toNat ≤ 16777216 * 255 := Nat.mul_le_mul hv2 (by omega)
            have hw1 : IntKind.u64.wrap ((v : Int) * (s[k].toNat : Int)) = (v : Int) * (s[k].toNat : Int) := by
              rw [IntKind.wrap_u64, ← Int.natCast_mul]; omega
            have hw2 : IntKind.u64.wrap ((v : Int) * 256) = (v : Int) * 256 := by
              rw [IntKind.wrap_u64]; omega
            have hw3 : IntKind.u64.wrap ((lowL ((shAt l 0).take k) : Nat) + (v : Int) * (s[k].toNat : Int)) = (lowL ((shAt l 0).take (k + 1)) : Nat) := by
              rw [IntKind.wrap_u64, hL, ← Int.natCast_mul]; omega
            have HE := hide (And.intro hk (And.intro hkn hv4))
            obtain ⟨z1, hz1'⟩ : ∃ z1, z1 = lowL ((shAt l 0).take (k + 1)) := ⟨_, rfl⟩
            rw [← hz1'] at hw3
            have HZ := hide hz1'
            generalize lowL ((shAt l 0).take k) = z0 at hw3 hL hl4 ⊢
            clear hL hl4 hv4 hx hv hk hget hvx hz1'
            go_wp2_with fail
            go_roundw
            case rel => exact ⟨k + 1, v * 256, by have := HE.out; omega, rfl, by rw [← HZ.out], HE.out.2.2, by simp, trivial⟩
            case measure => simp [intOf]; omega
          · obtain rfl : k = s.size := by omega
            have HT := hide (show (shL l).take 1 = [lowL ((shAt l 0).take s.size) + 4294967296 * s.size] by
              have h0 := hT.out
              rw [List.take_zero, List.nil_append, Nat.zero_add] at h0
              rw [← h0]
              unfold wordL
              rw [hAl, List.take_of_length_le (Nat.le_of_eq hAl)])
            have hzl := low_take_lt (shAt l 0) s.size (by omega)
            generalize lowL ((shAt l 0).take s.size) = z at HT hzl ⊢
            obtain ⟨y, hy⟩ : ∃ y, y = z + 4294967296 * s.size := ⟨_, rfl⟩
            rw [← hy] at HT
            have hwm : IntKind.u64.wrap ((s.size : Int) * 4294967296) = (s.size : Int) * 4294967296 := by rw [IntKind.wrap_u64]; omega
            have hwy : IntKind.u64.wrap ((z : Int) + (s.size : Int) * 4294967296) = (y : Int) := by rw [IntKind.wrap_u64]; omega
            have hO := HO.out
            have hBz := HB.out.size
            clear hy hzl hv
            go_wp2_with (at_builtin; refine wpList_append_own _ rfl _ _ 27 rfl w.heap.size 29 i0 (.int .u64 0) 1 8 Try.underlying27 hi hz0 hz1 hz2 rfl (by decide) _ _ _ rfl (hO.alloc _) ⟨wr.heap.size, 0, none⟩ 1 1 [.int .u64 (y : Nat)] rfl rfl (cell_one_new _ _ _) (by simp [Value.oneCell']) (by unfold maxLen; omega) (by omega) (by simp; omega) ?_)
            intro v' w' hO' hg hnil
            obtain ⟨g', cap', rfl⟩ := ownsRow_succ hO'
            have HO2 := hide (show w'.ownsRow w.heap.size 29 1 (.slice (some ⟨g', 0, none⟩) (0 + 1) cap') (0 + 1) (((shL l).take (0 + 1)).map uV) from (by rw [HT.out]; exact hO'))
            have HB2 := hide ((HB.out.alloc hBz _).grown hg (by simp; omega) (fun r e => (hO.lt r e).1))
            clear hO hO' hg hnil
            go_wp2_with fail
            go_roundw
            case rel => exact ⟨0 + 1, some ⟨g', 0, none⟩, cap', by simp, by omega, by simp, HO2.out, HB2.out⟩
            case measure => simp [intOf]
      · have hi2 : i = s.size + 1 - s.size := by omega
        have hni : ¬ (i : Int) ≤ (s.size : Int) - (s.size : Int) := by omega
        have HA := hide (show (shL l).length = i by rw [hlen.out, hm, hi2])
        have HL := hide hO
        have HB := hide hB
        clear hget hO hB hi2
        go_wp2_with fail
        refine bodyPost_ret (results_tmp rfl _ _ _) rfl ⟨A, c, by rw [HA.out]; rfl, ?_, fun ad h => (HL.out.lt ad.block (by rw [h]; rfl)).1, HB.out⟩
        have h := HL.out
        rw [List.take_of_length_le (by rw [HA.out]; exact Nat.le_refl _)] at h
        exact RdW.own h
  · have h4i : ¬ (s.size : Int) < 4 := by omega
    have hN : ofN l = 4 := by unfold ofN; omega
    have hlen := hide (shL_len l hn)
    rw [hN] at hlen
    have hword := fun (i : Nat) (h : i + 4 ≤ s.size) => shAt_len l i (by rw [hN, hm]; exact h)
    have HS := hide hn
    go_wp2_with fail
    go_loopw [4, 5, 6, 7, 8] (fun v at_ _ _ _ wr => ∃ (i : Nat) (A : Option Addr) (c : Nat), at_ = .int .i64 i ∧ i + 4 ≤ s.size + 1 ∧ v = .slice A i c ∧ wr.ownsRow w.heap.size 29 1 v i (((shL l).take i).map uV) ∧ Below w.heap.size w wr) (fun _ at_ _ _ _ _ => s.size + 1 - (intOf at_).toNat)
    case atStart => exact ⟨0, none, 0, rfl, by omega, rfl, World.ownsRow_nil _ _ _ _, Below.refl _ _⟩
    case round =>
      obtain ⟨i, A, c, rfl, hi1, rfl, hO, hB⟩ := hrel
      have hsub : IntKind.i64.wrap ((s.size : Int) - 4) = (s.size : Int) - 4 := IntWalk.i64_in _ (by omega)
      have hn0 : (0 : Int) < 4 := by omega
      by_cases hlt : i + 4 ≤ s.size
      · have hT := hide (shL_take l i hn (by rw [hN, hm]; exact hlt))
        have hAl : (shAt l i).length = 4 := by rw [hword i hlt, hN]
        have hli : (i : Int) ≤ (s.size : Int) - 4 := by omega
        have HO := hide hO
        have HB := hide hB
        clear hO hB
        have HG := hide hget
        clear hget
        go_wp2_with fail
        go_loopw [6, 7, 8] (fun x u j wr2 => ∃ k v : Nat, k ≤ 4 ∧ j = .int .i64 k ∧ x = .int .u64 (lowL ((shAt l i).take k) : Nat) ∧ v = 256 ^ k ∧ u = .int .u64 (v : Nat) ∧ wr2 = wr) (fun _ _ j _ => 4 - (intOf j).toNat)
        case atStart => exact ⟨0, 1, Nat.zero_le _, rfl, rfl, rfl, rfl, rfl⟩
        case round =>
          obtain ⟨k, v, hk, rfl, rfl, hv, rfl, rfl⟩ := hrel
          by_cases hkn : k < 4
          · have hki : (k : Int) < 4 := by omega
            have hget := HG.out
            obtain ⟨q, hq⟩ : ∃ q, q = i + k := ⟨_, rfl⟩
            have hqi : (i : Int) + (k : Int) = (q : Int) := by omega
            have hqs : q < s.size := by omega
            have hqw : IntKind.i64.wrap (q : Int) = (q : Int) := IntWalk.i64_in _ (by omega)
            have hx : ((shAt l i)[k]'(by omega)) = s[q] := by
              rw [hget]
              unfold shAt
              rw [List.getElem_take, List.getElem_drop]
              simp only [hq]
            have hL := low_take (shAt l i) k (by omega)
            rw [hx, ← hv] at hL
            have hb := s[q].toNat_lt
            have hv2 : v ≤ 16777216 := by
              rw [hv]
              exact Nat.pow_le_pow_right (n := 256) (by decide) (show k ≤ 3 by omega)
            have hl4 := low_take_lt (shAt l i) (k + 1) (by omega)
            have hv4 : v * 256 = 256 ^ (k + 1) := by rw [hv, Nat.pow_succ]
            have hbi : ((s[q].toNat : Nat) : Int) ≤ 255 := by omega
            have hw0 : IntKind.u64.wrap ((s[q].toNat : Nat) : Int) = ((s[q].toNat : Nat) : Int) := by rw [IntKind.wrap_u64]; omega
            have hvx : v * s[q].toNat ≤ 16777216 * 255 := Nat.mul_le_mul hv2 (by omega)
            have hw1 : IntKind.u64.wrap ((v : Int) * (s[q].toNat : Int)) = (v : Int) * (s[q].toNat : Int) := by
              rw [IntKind.wrap_u64, ← Int.natCast_mul]; omega
            have hw2 : IntKind.u64.wrap ((v : Int) * 256) = (v : Int) * 256 := by
              rw [IntKind.wrap_u64]; omega
            have hw3 : IntKind.u64.wrap ((lowL ((shAt l i).take k) : Nat) + (v : Int) * (s[q].toNat : Int)) = (lowL ((shAt l i).take (k + 1)) : Nat) := by
              rw [IntKind.wrap_u64, hL, ← Int.natCast_mul]; omega
            have HE := hide (And.intro hk (And.intro hkn hv4))
            obtain ⟨z1, hz1'⟩ : ∃ z1, z1 = lowL ((shAt l i).take (k + 1)) := ⟨_, rfl⟩
            rw [← hz1'] at hw3
            have HZ := hide hz1'
            generalize lowL ((shAt l i).take k) = z0 at hw3 hL hl4 ⊢
            clear hL hl4 hv4 hx hv hk hget hvx hz1' hq
            go_wp2_with fail
            go_roundw
            case rel => exact ⟨k + 1, v * 256, by have := HE.out; omega, rfl, by rw [← HZ.out], HE.out.2.2, by simp, trivial⟩
            case measure => simp [intOf]; omega
          · obtain rfl : k = 4 := by omega
            have HT := hide (show (shL l).take (i + 1) = (shL l).take i ++ [lowL ((shAt l i).take 4) + 4294967296 * 4] by
              rw [← hT.out]
              unfold wordL
              rw [hAl, List.take_of_length_le (Nat.le_of_eq hAl)])
            have hzl := low_take_lt (shAt l i) 4 (by omega)
            generalize lowL ((shAt l i).take 4) = z at HT hzl ⊢
            obtain ⟨y, hy⟩ : ∃ y, y = z + 4294967296 * 4 := ⟨_, rfl⟩
            rw [← hy] at HT
            have hwm : IntKind.u64.wrap (4 * 4294967296) = 4 * 4294967296 := by rw [IntKind.wrap_u64]; omega
            have hwy : IntKind.u64.wrap ((z : Int) + 17179869184) = (y : Int) := by rw [IntKind.wrap_u64]; omega
            have hO := HO.out
            have hBz := HB.out.size
            clear hy hzl hv
            go_wp2_with (at_builtin; refine wpList_append_own _ rfl _ _ 27 rfl w.heap.size 29 i0 (.int .u64 0) 1 8 Try.underlying27 hi hz0 hz1 hz2 rfl (by decide) _ _ _ rfl (hO.alloc _) ⟨wr.heap.size, 0, none⟩ 1 1 [.int .u64 (y : Nat)] rfl rfl (cell_one_new _ _ _) (by simp [Value.oneCell']) (by unfold maxLen; omega) (by omega) (by simp; omega) ?_)
            intro v' w' hO' hg hnil
            obtain ⟨g', cap', rfl⟩ := ownsRow_succ hO'
            have HO2 := hide (show w'.ownsRow w.heap.size 29 1 (.slice (some ⟨g', 0, none⟩) (i + 1) cap') (i + 1) (((shL l).take (i + 1)).map uV) from (by rw [HT.out, List.map_append, List.map_take]; exact hO'))
            have HB2 := hide ((HB.out.alloc hBz _).grown hg (by simp; omega) (fun r e => (hO.lt r e).1))
            clear hO hO' hg hnil
            go_wp2_with fail
            go_roundw
            case rel => exact ⟨i + 1, some ⟨g', 0, none⟩, cap', by simp, by omega, by simp, HO2.out, HB2.out⟩
            case measure => simp [intOf]; omega
      · have hi2 : i = s.size + 1 - 4 := by omega
        have hni : ¬ (i : Int) ≤ (s.size : Int) - 4 := by omega
        have HA := hide (show (shL l).length = i by rw [hlen.out, hm, hi2])
        have HL := hide hO
        have HB := hide hB
        clear hget hO hB hi2
        go_wp2_with fail
        refine bodyPost_ret (results_tmp rfl _ _ _) rfl ⟨A, c, by rw [HA.out]; rfl, ?_, fun ad h => (HL.out.lt ad.block (by rw [h]; rfl)).1, HB.out⟩
        have h := HL.out
        rw [List.take_of_length_le (by rw [HA.out]; exact Nat.le_refl _)] at h
        exact RdW.own h
end Go.Proofs.Ytpefcadlejcbbaa
