/-
  Texts that belong together: BkOfMath, SrVals.
-/
import Derived.Test.YtobgbheodlpclaaBkRefOf
import Derived.Test.YtobgbheodlpclaaAutoRollStep
import Derived.Test.YtobgbheodlpclaaSrMath
import Derived.Test.YtobgbheodlpclaaAutoPtMath
/-
  Of how many bytes the signature of bytes is, and that it may be (plain).
-/
namespace Go.Proofs.Ytobgbheodlpclaa
open Go.RowKit
set_option maxRecDepth 100000

theorem blk_length (l : List UInt8) (size : Int) (h k : Nat) (hh : fitN size = h) (hk : k < (countN l.length size).toNat) : (blkL l size k).length = min h (l.length - k * h) := by
  rw [(blk_here l size h k hh hk).2, List.length_take, List.length_drop]
theorem sigF_whole (l : List UInt8) (size : Int) (h : Nat) (hh : fitN size = h) : ∀ i, i * h ≤ l.length → i ≤ (countN l.length size).toNat → sigF h ((blocksL l size).take i) = (((blocksL l size).take i).map signL, 0, ⟨0, 0, 0⟩)
  | 0, _, _ => rfl
  | i + 1, h1, h2 => by
    have hi : i * h ≤ l.length := Nat.le_trans (Nat.mul_le_mul_right h (Nat.le_succ i)) h1
    have ih := sigF_whole l size h hh i hi (by omega)
    have hg := blocksL_get l size i (by omega)
    have hl : (blkL l size i).length = h := by
      rw [blk_length l size h i hh (by omega)]
      rw [Nat.add_mul, Nat.one_mul] at h1
      omega
    rw [sigF_take h _ i _ hg, ih, blocks_take l size i (by omega), List.map_append]
    unfold ofStep
    rw [if_pos hl]
    rfl
/-- All of a signature of bytes. -/
theorem sig_facts (l : List UInt8) (size : Int) (h : Nat) (hh : fitN size = h) (hl : l.length ≤ 16384) :
    (sigF h (blocksL l size)).1.length * h + (sigF h (blocksL l size)).2.1 = l.length ∧ rightS h (sigF h (blocksL l size)).1.length ((sigF h (blocksL l size)).2.1 : Nat) (sigF h (blocksL l size)).2.2 = true ∧ (sigF h (blocksL l size)).1.length ≤ 4096 ∧ ∀ x ∈ (sigF h (blocksL l size)).1, x.fits := by
  have hf := fitN_in size
  rw [hh] at hf
  have hnn := countN_nn l.length size
  have hcn := countN_nat l.length size
  rw [hh] at hcn
  obtain ⟨N, hN⟩ : ∃ N : Nat, countN l.length size = N := ⟨(countN l.length size).toNat, by omega⟩
  have hNt : (countN l.length size).toNat = N := by omega
  have hlen : (blocksL l size).length = N := by rw [blocksL_len, hNt]
  have hall : (blocksL l size).take N = blocksL l size := List.take_of_length_le (by omega)
  have e := Int.mul_ediv_add_emod (l.length : Int) h
  have hm := Int.emod_nonneg (l.length : Int) (show (h : Int) ≠ 0 by omega)
  have hm2 := Int.emod_lt_of_pos (l.length : Int) (show (0 : Int) < h by omega)
  have hq0 : 0 ≤ (l.length : Int) / h := Int.ediv_nonneg (by omega) (by omega)
  obtain ⟨q, hq⟩ : ∃ q : Nat, (l.length : Int) / h = q := ⟨((l.length : Int) / h).toNat, by omega⟩
  rw [hq] at e hcn
  have hqh : ((q * h : Nat) : Int) = (h : Int) * q := by rw [Int.natCast_mul, Int.mul_comm]
  have hq4 : q * 4 ≤ q * h := Nat.mul_le_mul_left q (by omega)
  rw [hN] at hcn
  by_cases h0 : (l.length : Int) % h = 0
  · rw [if_pos h0] at hcn
    have hqN : q = N := by omega
    have hw := sigF_whole l size h hh N (by rw [← hqN]; omega) (by omega)
    rw [hall] at hw
    rw [hw]
    refine ⟨?_, ?_, ?_, ?_⟩
    · show (List.map signL (blocksL l size)).length * h + 0 = l.length
      rw [List.length_map, hlen, ← hqN]; omega
    · show rightS h (List.map signL (blocksL l size)).length ((0 : Nat) : Int) ⟨0, 0, 0⟩ = true
      rw [List.length_map, hlen, right_in (by omega) (by omega) (by omega)]
      rfl
    · show (List.map signL (blocksL l size)).length ≤ 4096
      rw [List.length_map, hlen]; omega
    · intro x hx
      obtain ⟨y, _, rfl⟩ := List.mem_map.1 hx
      exact signL_fits y
  · rw [if_neg h0] at hcn
    have hqN : q + 1 = N := by omega
    have hw := sigF_whole l size h hh q (by omega) (by omega)
    have hg := blocksL_get l size q (by omega)
    have hbl : (blkL l size q).length = l.length - q * h := by
      rw [blk_length l size h q hh (by omega)]; omega
    have hst := sigF_take h _ q _ hg
    rw [hqN, hall, hw] at hst
    have hne : ¬ (blkL l size q).length = h := by omega
    unfold ofStep at hst
    rw [if_neg hne] at hst
    have htl : ((blocksL l size).take q).length = q := by rw [List.length_take]; omega
    rw [hst]
    refine ⟨?_, ?_, ?_, ?_⟩
    · show (List.map signL ((blocksL l size).take q)).length * h + (blkL l size q).length = l.length
      rw [List.length_map, htl, hbl]; omega
    · show rightS h (List.map signL ((blocksL l size).take q)).length ((blkL l size q).length : Nat) (signL (blkL l size q)) = true
      rw [List.length_map, htl, right_in (by omega) (by omega) (by omega), if_neg (by omega), hbl]
      simp only [Bool.and_eq_true, decide_eq_true_eq]
      omega
    · show (List.map signL ((blocksL l size).take q)).length ≤ 4096
      rw [List.length_map, htl]; omega
    · intro x hx
      obtain ⟨y, _, rfl⟩ := List.mem_map.1 hx
      exact signL_fits y
end Go.Proofs.Ytobgbheodlpclaa
/-
  What the tokens of a search stand for (plain).
-/
namespace Go.Proofs.Ytobgbheodlpclaa
open Go.RowKit
set_option maxRecDepth 100000

/-- What tokens stand for, one behind the other. -/
def valsL (l : List UInt8) (size : Int) (T : List Tk) : List UInt8 := T.flatMap (stepV l size)
theorem valsL_app (l : List UInt8) (size : Int) (S T : List Tk) : valsL l size (S ++ T) = valsL l size S ++ valsL l size T := by unfold valsL; exact List.flatMap_append
theorem valsL_cons (l : List UInt8) (size : Int) (t : Tk) (T : List Tk) : valsL l size (t :: T) = stepV l size t ++ valsL l size T := by unfold valsL; exact List.flatMap_cons
theorem toL_app (a b : ByteArray) : toL (a ++ b) = toL a ++ toL b := by simp [toL]
theorem toL_none {s : ByteArray} (h : s.size = 0) : toL s = [] := List.length_eq_zero_iff.1 (by show s.data.toList.length = 0; simpa using h)
theorem stepV_merge (l : List UInt8) (size : Int) {a t c : Tk} (ha : rightT a = true) (ht : rightT t = true) (h : mergeT a t = some c) : stepV l size c = stepV l size a ++ stepV l size t := by
  obtain ⟨a1, a2, a3, a4, a5⟩ := rightT_facts a ha
  obtain ⟨t1, t2, t3, t4, t5⟩ := rightT_facts t ht
  obtain ⟨fa, ma, da⟩ := a
  obtain ⟨ft, mt, dt⟩ := t
  simp only at a1 a2 a3 a4 a5 t1 t2 t3 t4 t5
  unfold mergeT at h
  simp only at h
  split at h
  · rename_i h0
    subst h0
    split at h
    · rename_i h1
      obtain ⟨h1, _⟩ := h1
      subst h1
      injection h with h
      subst h
      simp [stepV, manyB, toL_app]
    · cases h
  · rename_i h0
    split at h
    · rename_i h1
      obtain ⟨h1, h2⟩ := h1
      injection h with h
      subst h
      subst h2
      have e1 := toL_none (a5 h0)
      have e2 := toL_none (t5 h1)
      have e3 : toL (ByteArray.mk #[]) = [] := rfl
      unfold stepV
      simp only
      rw [e1, e2, e3, List.nil_append, List.nil_append, List.nil_append, show (ma + mt).toNat = ma.toNat + mt.toNat by omega, ← manyB_app]
      rw [show fa + (ma.toNat : Int) = fa + ma by omega]
    · cases h
theorem vals_step (l : List UInt8) (size : Int) {o : List Tk} {t : Tk} (ho : ∀ x ∈ o, rightT x = true) (ht : rightT t = true) : valsL l size (stepO o t) = valsL l size o ++ stepV l size t := by
  rcases snoc_cases o with rfl | ⟨p, a, rfl⟩
  · rw [stepO_nil]; simp [valsL]
  · rw [stepO_snoc]
    cases hm : mergeT a t with
    | none => simp only [valsL_app, valsL_cons]; simp [valsL]
    | some c =>
      simp only [valsL_app, valsL_cons]
      rw [stepV_merge l size (ho a (by simp)) ht hm]
      simp [valsL]
theorem vals_fold (l : List UInt8) (size : Int) : ∀ (q o : List Tk), (∀ x ∈ o, rightT x = true) → (∀ x ∈ q, rightT x = true) → valsL l size (q.foldl stepO o) = valsL l size o ++ valsL l size q
  | [], o, _, _ => by simp [valsL]
  | t :: q, o, ho, hq => by
    have ht := hq t List.mem_cons_self
    rw [List.foldl_cons, vals_fold l size q _ (stepO_right ho ht) (fun x hx => hq x (List.mem_cons_of_mem _ hx)), vals_step l size ho ht, valsL_cons, List.append_assoc]
theorem vals_join (l : List UInt8) (size : Int) (T : List Tk) (h : ∀ x ∈ T, rightT x = true) : valsL l size (joinR T) = valsL l size T := by
  unfold joinR
  rw [right_self h, vals_fold l size T [] (by simp) h]
  simp [valsL]
theorem stepV_copy (l : List UInt8) (size : Int) (k : Nat) : stepV l size (copyT k) = blkL l size k := by
  unfold stepV copyT
  show toL (ByteArray.mk #[]) ++ manyB l size k 1 = _
  show [] ++ ([] ++ blkL l size ((k : Nat) + ((0 : Nat) : Int))) = _
  simp
theorem stepV_byte (l : List UInt8) (size : Int) (x : UInt8) : stepV l size (byteT x) = [x] := by
  unfold stepV byteT
  show [x] ++ [] = _
  rfl
/-- Whatever is searched for in what, the tokens stand for as many bytes as there are. -/
theorem vals_len (l : List UInt8) (size : Int) (bl : List Sg) (n tl : Nat) (ls : Sg) (hn : ∀ k < bl.length, (blkL l size k).length = n) (ht : tl ≠ 0 → (blkL l size bl.length).length = tl) (h0 : 0 < n) :
    ∀ (f : Nat) (b : List UInt8) (nx : Nat), b.length ≤ f → (valsL l size (refS bl n tl ls f b nx)).length = b.length
  | 0, b, _, h => by rw [List.eq_nil_of_length_eq_zero (by omega : b.length = 0)]; rfl
  | f + 1, [], _, _ => rfl
  | f + 1, x :: r, nx, h => by
    simp only [List.length_cons] at h
    rw [refS_cons]
    split
    · rename_i hnr
      simp only [List.length_cons] at hnr
      split
      · rename_i k hk
        rw [valsL_cons, List.length_append, stepV_copy, hn k (whichL_lt hk), vals_len l size bl n tl ls hn ht h0 f _ _ (by rw [List.length_drop, List.length_cons]; omega), List.length_drop, List.length_cons]
        omega
      · rw [valsL_cons, List.length_append, stepV_byte, vals_len l size bl n tl ls hn ht h0 f _ _ (by omega)]
        simp; omega
    · split
      · rename_i hT
        unfold tailB at hT
        simp only [Bool.and_eq_true, decide_eq_true_eq, List.length_cons] at hT
        rw [valsL_cons, List.length_append, stepV_copy, ht hT.1, vals_len l size bl n tl ls hn ht h0 f _ _ (by rw [List.length_drop, List.length_cons]; omega), List.length_drop, List.length_cons]
        omega
      · rw [valsL_cons, List.length_append, stepV_byte, vals_len l size bl n tl ls hn ht h0 f _ _ (by omega)]
        simp; omega
/-- Have a text and a window that isn't it one strong sum? -/
def clashW (x y : List UInt8) : Bool := decide (y ≠ x) && decide (sumL y = sumL x)
/-- Has a text, in any window from p on, m of them? -/
def clashF (x b : List UInt8) : Nat → Nat → Bool
  | 0, _ => false
  | m + 1, p => clashW x ((b.drop p).take x.length) || clashF x b m (p + 1)
def clashX (b x : List UInt8) : Bool := clashF x b (b.length + 1 - x.length) 0
def clashL (L : List (List UInt8)) (b : List UInt8) : Bool := L.any (clashX b)
theorem clashF_no {x b : List UInt8} : ∀ (m p : Nat), clashF x b m p = false → ∀ q, p ≤ q → q < p + m → clashW x ((b.drop q).take x.length) = false
  | 0, p, _, q, h1, h2 => by omega
  | m + 1, p, h, q, h1, h2 => by
    unfold clashF at h
    rw [Bool.or_eq_false_iff] at h
    by_cases e : q = p
    · rw [e]; exact h.1
    · exact clashF_no m (p + 1) h.2 q (by omega) (by omega)
theorem clashX_no {x b : List UInt8} (h : clashX b x = false) (q : Nat) (hq : q + x.length ≤ b.length) (hs : sumL ((b.drop q).take x.length) = sumL x) : (b.drop q).take x.length = x := by
  have := clashF_no _ _ h q (Nat.zero_le _) (by omega)
  unfold clashW at this
  rw [Bool.and_eq_false_iff] at this
  rcases this with h1 | h1
  · simpa using h1
  · simp [hs] at h1
/-- Where no two have one sum, the tokens stand for the bytes. -/
theorem vals_back (l B : List UInt8) (size : Int) (bl : List Sg) (n tl : Nat) (ls : Sg) (hn : ∀ k < bl.length, (blkL l size k).length = n ∧ bl[k]? = some (signL (blkL l size k)) ∧ clashX B (blkL l size k) = false)
    (ht : tl ≠ 0 → (blkL l size bl.length).length = tl ∧ ls = signL (blkL l size bl.length) ∧ clashX B (blkL l size bl.length) = false) (h0 : 0 < n) :
    ∀ (f : Nat) (p : Nat) (nx : Nat), (B.drop p).length ≤ f → valsL l size (refS bl n tl ls f (B.drop p) nx) = B.drop p
  | 0, p, _, h => by rw [List.eq_nil_of_length_eq_zero (by omega : (B.drop p).length = 0)]; rfl
  | f + 1, p, nx, h => by
    by_cases hp : p < B.length
    · have hd := List.drop_eq_getElem_cons hp
      have ih := fun q (hq : p < q) nx => vals_back l B size bl n tl ls hn ht h0 f q nx (by rw [List.length_drop] at h ⊢; omega)
      rw [hd, refS_cons, ← hd]
      split
      · rename_i hnr
        rw [List.length_drop] at hnr
        split
        · rename_i k hk
          obtain ⟨h1, h2, h3⟩ := hn k (whichL_lt hk)
          have hs : sumL ((B.drop p).take n) = sumL (blkL l size k) := by
            have := (whichL_get hk).symm.trans h2
            injection this with this
            have e1 := congrArg Sg.hi this
            have e2 := congrArg Sg.lo this
            exact Prod.ext e1 e2
          rw [← h1] at hs
          have hw := clashX_no h3 p (by omega) hs
          rw [valsL_cons, stepV_copy, List.drop_drop, ih (p + n) (by omega), ← List.drop_drop, ← hw, h1, List.take_append_drop]
        · rw [valsL_cons, stepV_byte, ih (p + 1) (by omega)]
          exact hd.symm
      · split
        · rename_i hT
          unfold tailB at hT
          simp only [Bool.and_eq_true, decide_eq_true_eq] at hT
          obtain ⟨t0, t1, t2⟩ := hT
          obtain ⟨h1, h2, h3⟩ := ht t0
          have hs : sumL (((B.drop p)).take tl) = sumL (blkL l size bl.length) := by
            rw [List.take_of_length_le (by omega)]
            have := (sgB_iff _ _).1 t2
            rw [h2] at this
            have e1 := congrArg Sg.hi this
            have e2 := congrArg Sg.lo this
            exact Prod.ext e1 e2
          rw [← h1] at hs
          rw [List.length_drop] at t1
          have hw := clashX_no h3 p (by omega) hs
          rw [valsL_cons, stepV_copy, List.drop_drop, ih (p + tl) (by omega), ← List.drop_drop, ← hw, h1, List.take_append_drop]
        · rw [valsL_cons, stepV_byte, ih (p + 1) (by omega)]
          exact hd.symm
    · rw [List.drop_of_length_le (by omega)]; rfl
end Go.Proofs.Ytobgbheodlpclaa
