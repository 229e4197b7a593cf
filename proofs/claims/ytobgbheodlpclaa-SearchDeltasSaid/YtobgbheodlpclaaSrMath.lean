/-
  What a search finds (plain): the reference's tokens, the program's, and that both come to one.
-/
import Derived.Test.YtobgbheodlpclaaTkJoinMath
import Derived.Test.YtobgbheodlpclaaAutoMapG
namespace Go.Proofs.Ytobgbheodlpclaa
open Go.RowKit
set_option maxRecDepth 100000

/-- The first of signs that is one, told from k on. -/
def idxF (g : Sg) : List Sg → Nat → Option Nat
  | [], _ => none
  | x :: r, k => if sgB x g = true then some k else idxF g r (k + 1)
/-- Which block is copied for a sign, nx being the next one. -/
def whichL (bl : List Sg) (g : Sg) (nx : Nat) : Option Nat :=
  match bl[nx]? with
  | some x => if sgB x g = true then some nx else idxF g bl 0
  | none => idxF g bl 0
def copyT (k : Nat) : Tk := ⟨(k : Nat), 1, ⟨#[]⟩⟩
def byteT (x : UInt8) : Tk := ⟨0, 0, ofL [x]⟩
def onesL (b : List UInt8) : List Tk := b.map byteT
def litL (b : List UInt8) : List Tk := if b.length = 0 then [] else [⟨0, 0, ofL b⟩]
/-- Are bytes the tail? -/
def tailB (tl : Nat) (ls : Sg) (b : List UInt8) : Bool := decide (tl ≠ 0) && (decide (b.length = tl) && sgB (signL b) ls)
/-- The reference's tokens, one behind the other. -/
def refS (bl : List Sg) (n tl : Nat) (ls : Sg) : Nat → List UInt8 → Nat → List Tk
  | 0, _, _ => []
  | _ + 1, [], _ => []
  | f + 1, x :: r, nx =>
    if n ≤ (x :: r).length then
      match whichL bl (signL ((x :: r).take n)) nx with
      | some k => copyT k :: refS bl n tl ls f ((x :: r).drop n) (k + 1)
      | none => byteT x :: refS bl n tl ls f r 0
    else if tailB tl ls (x :: r) = true then copyT bl.length :: refS bl n tl ls f ((x :: r).drop tl) (bl.length + 1)
    else byteT x :: refS bl n tl ls f r 0
/-- Bytes in which there is no block but perhaps the tail. -/
def endW (lit : List UInt8 → List Tk) (nb tl : Nat) (ls : Sg) (b : List UInt8) : List Tk :=
  if tl ≤ b.length ∧ tailB tl ls (b.drop (b.length - tl)) = true then lit (b.take (b.length - tl)) ++ [copyT nb] else lit b
/-- The first place, from p on, at which there is a block. -/
def scanA (bl : List Sg) (n : Nat) : Nat → Nat → List UInt8 → Nat → Option (Nat × Nat)
  | 0, _, _, _ => none
  | f + 1, p, r, nx => if n ≤ r.length then (match whichL bl (signL (r.take n)) nx with
    | some k => some (p, k)
    | none => scanA bl n f (p + 1) (r.drop 1) 0) else none
/-- The program's tokens. -/
def progW (lit : List UInt8 → List Tk) (bl : List Sg) (n tl : Nat) (ls : Sg) : Nat → List UInt8 → Nat → List Tk
  | 0, _, _ => []
  | f + 1, b, nx => match scanA bl n (b.length + 1) 0 b nx with
    | some (p, k) => lit (b.take p) ++ (copyT k :: progW lit bl n tl ls f (b.drop (p + n)) (k + 1))
    | none => endW lit bl.length tl ls b

theorem idxF_lt (g : Sg) : ∀ (l : List Sg) (k j : Nat), idxF g l k = some j → k ≤ j ∧ j < k + l.length
  | [], _, _, h => by cases h
  | x :: r, k, j, h => by
    unfold idxF at h
    split at h
    · injection h with h; subst h; simp
    · have := idxF_lt g r (k + 1) j h
      simp only [List.length_cons]; omega
theorem idxF_none (g : Sg) : ∀ (l : List Sg) (k : Nat), idxF g l k = none → ∀ x ∈ l, sgB x g = false
  | [], _, _ => by simp
  | x :: r, k, h => by
    unfold idxF at h
    split at h
    · cases h
    · rename_i hx
      intro y hy
      rcases List.mem_cons.1 hy with rfl | hy
      · simpa using hx
      · exact idxF_none g r (k + 1) h y hy
theorem idxF_get (g : Sg) : ∀ (l : List Sg) (k j : Nat), idxF g l k = some j → l[j - k]? = some g
  | [], _, _, h => by cases h
  | x :: r, k, j, h => by
    unfold idxF at h
    split at h
    · rename_i hx
      injection h with h; subst h
      rw [Nat.sub_self]
      exact congrArg some ((sgB_iff _ _).1 hx)
    · have h1 := idxF_get g r (k + 1) j h
      have h2 := idxF_lt g r (k + 1) j h
      rw [show j - k = (j - (k + 1)) + 1 by omega]
      exact h1
theorem whichL_lt {bl : List Sg} {g : Sg} {nx k : Nat} (h : whichL bl g nx = some k) : k < bl.length := by
  unfold whichL at h
  split at h
  · rename_i x hx
    split at h
    · injection h with h; subst h; exact (List.getElem?_eq_some_iff.1 hx).1
    · have := idxF_lt g bl 0 k h; omega
  · have := idxF_lt g bl 0 k h; omega
theorem whichL_get {bl : List Sg} {g : Sg} {nx k : Nat} (h : whichL bl g nx = some k) : bl[k]? = some g := by
  unfold whichL at h
  split at h
  · rename_i x hx
    split at h
    · rename_i hq
      injection h with h; subst h; rw [hx, (sgB_iff _ _).1 hq]
    · have := idxF_get g bl 0 k h; simpa using this
  · have := idxF_get g bl 0 k h; simpa using this
theorem whichL_some {bl : List Sg} {g : Sg} (nx : Nat) (h : g ∈ bl) : whichL bl g nx ≠ none := by
  have hi : idxF g bl 0 ≠ none := fun e => by
    have := idxF_none g bl 0 e g h
    rw [(sgB_iff g g).2 rfl] at this
    cases this
  unfold whichL
  split
  · split
    · exact fun h => by cases h
    · exact hi
  · exact hi
/-- Where none was copied right ahead, the next one is block 0. -/
theorem whichL_zero (bl : List Sg) (g : Sg) : whichL bl g 0 = idxF g bl 0 := by
  cases bl with
  | nil => rfl
  | cons x r =>
    unfold whichL
    simp only [List.getElem?_cons_zero]
    split
    · rename_i h; unfold idxF; rw [if_pos h]
    · rfl
theorem refS_cons (bl : List Sg) (n tl : Nat) (ls : Sg) (f nx : Nat) (x : UInt8) (r : List UInt8) : refS bl n tl ls (f + 1) (x :: r) nx = if n ≤ (x :: r).length then
      (match whichL bl (signL ((x :: r).take n)) nx with
      | some k => copyT k :: refS bl n tl ls f ((x :: r).drop n) (k + 1)
      | none => byteT x :: refS bl n tl ls f r 0)
    else if tailB tl ls (x :: r) = true then copyT bl.length :: refS bl n tl ls f ((x :: r).drop tl) (bl.length + 1)
    else byteT x :: refS bl n tl ls f r 0 := rfl
theorem refS_nil (bl : List Sg) (n tl : Nat) (ls : Sg) (f nx : Nat) : refS bl n tl ls f [] nx = [] := by
  cases f <;> rfl
theorem scan_some (bl : List Sg) (n tl : Nat) (ls : Sg) (hn : 0 < n) : ∀ (f p : Nat) (r : List UInt8) (nx q k : Nat), scanA bl n f p r nx = some (q, k) →
    ∃ d, q = p + d ∧ d + n ≤ r.length ∧ k < bl.length ∧ bl[k]? = some (signL ((r.drop d).take n)) ∧ ∀ g, r.length ≤ g → ∃ g', r.length - d - n ≤ g' ∧ refS bl n tl ls g r nx = onesL (r.take d) ++ (copyT k :: refS bl n tl ls g' (r.drop (d + n)) (k + 1))
  | 0, _, _, _, _, _, h => by cases h
  | f + 1, p, r, nx, q, k, h => by
    unfold scanA at h
    split at h
    · rename_i hnr
      cases r with
      | nil => simp at hnr; omega
      | cons x r =>
        cases hw : whichL bl (signL ((x :: r).take n)) nx with
        | some k' =>
          rw [hw] at h
          simp only [Option.some.injEq, Prod.mk.injEq] at h
          obtain ⟨rfl, rfl⟩ := h
          refine ⟨0, by omega, by omega, whichL_lt hw, ?_, fun g hg => ?_⟩
          · rw [List.drop_zero]; exact whichL_get hw
          · cases g with
            | zero => simp at hg
            | succ g =>
              refine ⟨g, by simp at hg ⊢; omega, ?_⟩
              rw [refS_cons, if_pos hnr, hw]
              simp [onesL]
        | none =>
          rw [hw] at h
          simp only at h
          obtain ⟨d, e1, e2, e3, e5, e4⟩ := scan_some bl n tl ls hn f (p + 1) _ 0 q k h
          simp only [List.drop_succ_cons, List.drop_zero] at e2 e4 e5
          refine ⟨d + 1, by omega, by simp; omega, e3, ?_, fun g hg => ?_⟩
          · rw [List.drop_succ_cons]; exact e5
          · cases g with
            | zero => simp at hg
            | succ g =>
              obtain ⟨g', f1, f2⟩ := e4 g (by simp at hg; omega)
              refine ⟨g', by simp; omega, ?_⟩
              rw [refS_cons, if_pos hnr, hw]
              simp only
              rw [f2, show d + 1 + n = (d + n) + 1 by omega]
              rfl
    · cases h
theorem endW_cons (nb tl : Nat) (ls : Sg) (x : UInt8) (r : List UInt8) (h : tl ≤ r.length) : endW onesL nb tl ls (x :: r) = byteT x :: endW onesL nb tl ls r := by
  unfold endW
  have e : (x :: r).length - tl = (r.length - tl) + 1 := by simp only [List.length_cons]; omega
  rw [e, List.drop_succ_cons, List.take_succ_cons]
  have h2 : tl ≤ (x :: r).length := by simp only [List.length_cons]; omega
  by_cases ht : tailB tl ls (r.drop (r.length - tl)) = true
  · rw [if_pos ⟨h2, ht⟩, if_pos ⟨h, ht⟩]; rfl
  · rw [if_neg (fun q => ht q.2), if_neg (fun q => ht q.2)]; rfl
theorem refS_short (bl : List Sg) (n tl : Nat) (ls : Sg) : ∀ (r : List UInt8) (g nx : Nat), r.length ≤ g → r.length < n → refS bl n tl ls g r nx = endW onesL bl.length tl ls r
  | [], g, nx, _, _ => by
    rw [refS_nil]
    unfold endW
    rw [if_neg (fun h => ?_)]
    · rfl
    · have h1 := h.1
      have h2 := h.2
      unfold tailB at h2
      simp at h1 h2
      omega
  | x :: r, g, nx, hg, hn => by
    cases g with
    | zero => simp at hg
    | succ g =>
      rw [refS_cons, if_neg (by omega)]
      by_cases ht : tailB tl ls (x :: r) = true
      · rw [if_pos ht]
        have hlen : (x :: r).length = tl := by
          unfold tailB at ht
          simp only [Bool.and_eq_true, decide_eq_true_eq] at ht
          exact ht.2.1
        unfold endW
        rw [show (x :: r).length - tl = 0 by omega, List.drop_zero, if_pos ⟨by omega, ht⟩, List.drop_of_length_le (by omega), refS_nil]
        rfl
      · rw [if_neg ht, refS_short bl n tl ls r g 0 (by simp at hg; omega) (by simp at hn; omega)]
        by_cases hr : tl ≤ r.length
        · rw [endW_cons _ _ _ _ _ hr]
        · have e1 : endW onesL bl.length tl ls r = onesL r := by unfold endW; rw [if_neg (fun q => hr q.1)]
          rw [e1]
          unfold endW
          rw [if_neg (fun q => ?_)]
          · rfl
          · have h1 := q.1
            have h2 := q.2
            simp only [List.length_cons] at h1
            have e : (x :: r).length - tl = 0 := by simp only [List.length_cons]; omega
            rw [e, List.drop_zero] at h2
            exact ht h2
theorem scan_none (bl : List Sg) (n tl : Nat) (ls : Sg) (hn : 0 < n) (ht : tl < n) : ∀ (f p : Nat) (r : List UInt8) (nx : Nat), r.length < f → scanA bl n f p r nx = none → ∀ g, r.length ≤ g → refS bl n tl ls g r nx = endW onesL bl.length tl ls r
  | 0, _, _, _, h, _ => by omega
  | f + 1, p, r, nx, hf, h => by
    intro g hg
    unfold scanA at h
    by_cases hnr : n ≤ r.length
    · rw [if_pos hnr] at h
      cases r with
      | nil => simp at hnr; omega
      | cons x r =>
        cases g with
        | zero => simp at hg
        | succ g =>
          cases hw : whichL bl (signL ((x :: r).take n)) nx with
          | some k => rw [hw] at h; cases h
          | none =>
            rw [hw] at h
            simp only [List.drop_succ_cons, List.drop_zero] at h
            rw [refS_cons, if_pos hnr, hw]
            simp only
            rw [scan_none bl n tl ls hn ht f (p + 1) r 0 (by simp at hf; omega) h g (by simp at hg; omega), endW_cons _ _ _ _ _ (by simp at hnr; omega)]
    · exact refS_short bl n tl ls r g nx hg (by omega)
theorem progO_ref (bl : List Sg) (n tl : Nat) (ls : Sg) (hn : 0 < n) (ht : tl < n) : ∀ (g f : Nat) (b : List UInt8) (nx : Nat), b.length ≤ f → b.length < g → progW onesL bl n tl ls g b nx = refS bl n tl ls f b nx
  | 0, _, _, _, _, h => by omega
  | g + 1, f, b, nx, hf, hg => by
    unfold progW
    cases hs : scanA bl n (b.length + 1) 0 b nx with
    | none =>
      simp only
      exact (scan_none bl n tl ls hn ht _ _ b nx (Nat.lt_succ_self _) hs f hf).symm
    | some pk =>
      obtain ⟨p, k⟩ := pk
      simp only
      obtain ⟨d, e1, e2, e3, _, e4⟩ := scan_some bl n tl ls hn _ _ b nx p k hs
      obtain ⟨g', f1, f2⟩ := e4 f hf
      obtain rfl : p = d := by omega
      rw [f2, progO_ref bl n tl ls hn ht g g' (b.drop (p + n)) (k + 1) (by rw [List.length_drop]; omega) (by rw [List.length_drop]; omega)]

theorem size_ofL (l : List UInt8) : (ofL l).size = l.length := ofL_size l
theorem byte_right (x : UInt8) : rightT (byteT x) = true := by
  unfold rightT byteT
  rw [if_pos rfl]
  simp only [Bool.and_eq_true, decide_eq_true_eq, size_ofL]
  simp
theorem copy_right {k : Nat} (h : k ≤ 4096) : rightT (copyT k) = true := by
  unfold rightT copyT
  rw [if_neg (show ¬ (1 : Int) = 0 by decide)]
  simp only [Bool.and_eq_true, decide_eq_true_eq]
  refine ⟨⟨⟨by omega, by omega⟩, by omega⟩, rfl⟩
theorem lit_right {b : List UInt8} (h0 : b.length ≠ 0) (h : b.length ≤ 16384) : rightT ⟨0, 0, ofL b⟩ = true := by
  unfold rightT
  rw [if_pos rfl]
  simp only [Bool.and_eq_true, decide_eq_true_eq, size_ofL]
  refine ⟨⟨trivial, by omega⟩, by omega⟩
theorem ones_right (b : List UInt8) : ∀ t ∈ onesL b, rightT t = true := fun t ht => by
  unfold onesL at ht
  obtain ⟨x, _, rfl⟩ := List.mem_map.1 ht
  exact byte_right x
theorem litL_right {b : List UInt8} (h : b.length ≤ 16384) : ∀ t ∈ litL b, rightT t = true := fun t ht => by
  unfold litL at ht
  split at ht
  · cases ht
  · rename_i h0
    obtain rfl := List.mem_singleton.1 ht
    exact lit_right h0 h
theorem ones_size : ∀ b : List UInt8, sizeL (onesL b) = b.length
  | [] => rfl
  | x :: b => by
    show (byteT x).data.size + sizeL (onesL b) = _
    rw [ones_size b]
    show (ofL [x]).size + b.length = _
    rw [size_ofL, List.length_cons, List.length_cons, List.length_nil]; omega
theorem ofL_put (a b : List UInt8) : ofL a ++ ofL b = ofL (a ++ b) := toL_inj (by simp [toL, ofL])
theorem ones_fold (b : List UInt8) : b.length ≤ 16384 → b ≠ [] → (onesL b).foldl stepO [] = [⟨0, 0, ofL b⟩] := by
  induction h : b.length generalizing b with
  | zero => intro _ h0; exact absurd (List.eq_nil_of_length_eq_zero h) h0
  | succ m ih =>
    intro hs _
    rcases List.eq_nil_or_concat b with rfl | ⟨q, x, rfl⟩
    · cases h
    · rw [List.concat_eq_append] at h ⊢
      have hq : q.length = m := by simpa using h
      have e : onesL (q ++ [x]) = onesL q ++ [byteT x] := by simp [onesL]
      rw [e, List.foldl_append]
      show stepO ((onesL q).foldl stepO []) (byteT x) = _
      by_cases hq0 : q = []
      · subst hq0; rfl
      · rw [ih q hq (by omega) hq0, show ([⟨0, 0, ofL q⟩] : List Tk) = [] ++ [⟨0, 0, ofL q⟩] from rfl, stepO_snoc]
        have hm : mergeT ⟨0, 0, ofL q⟩ (byteT x) = some ⟨0, 0, ofL q ++ ofL [x]⟩ := by
          unfold mergeT byteT
          rw [if_pos rfl, if_pos ⟨rfl, by show (ofL q).size + (ofL [x]).size ≤ 16384; rw [size_ofL, size_ofL]; simp; omega⟩]
        rw [hm]
        simp only [List.nil_append]
        rw [ofL_put]
theorem lit_fold (o : List Tk) (b : List UInt8) (ho : ∀ x ∈ o, rightT x = true) (h : sizeL o + b.length ≤ 16384) : (litL b).foldl stepO o = (onesL b).foldl stepO o := by
  by_cases h0 : b = []
  · subst h0; rfl
  · have hl : b.length ≠ 0 := fun e => h0 (List.eq_nil_of_length_eq_zero e)
    have hj := fold_join o ho _ (onesL b) rfl (ones_right b) (by rw [ones_size]; exact h)
    rw [ones_fold b (by omega) h0] at hj
    unfold litL
    rw [if_neg hl]
    exact hj
theorem endW_fold (nb tl : Nat) (ls : Sg) (o : List Tk) (b : List UInt8) (ho : ∀ x ∈ o, rightT x = true) (h : sizeL o + b.length ≤ 16384) : (endW litL nb tl ls b).foldl stepO o = (endW onesL nb tl ls b).foldl stepO o := by
  unfold endW
  split
  · rw [List.foldl_append, List.foldl_append, lit_fold o _ ho (by rw [List.length_take]; omega)]
  · exact lit_fold o b ho h
theorem prog_fold (bl : List Sg) (n tl : Nat) (ls : Sg) (hn : 0 < n) (hbl : bl.length ≤ 4096) : ∀ (g : Nat) (b : List UInt8) (nx : Nat) (o : List Tk), (∀ x ∈ o, rightT x = true) → sizeL o + b.length ≤ 16384 →
    (progW litL bl n tl ls g b nx).foldl stepO o = (progW onesL bl n tl ls g b nx).foldl stepO o
  | 0, _, _, _, _, _ => rfl
  | g + 1, b, nx, o, ho, hs => by
    unfold progW
    cases hc : scanA bl n (b.length + 1) 0 b nx with
    | none => simp only; exact endW_fold _ _ _ _ _ ho hs
    | some pk =>
      obtain ⟨p, k⟩ := pk
      simp only
      obtain ⟨d, e1, e2, e3, _, _⟩ := scan_some bl n tl ls hn _ _ b nx p k hc
      obtain rfl : p = d := by omega
      rw [List.foldl_append, List.foldl_append, lit_fold o _ ho (by rw [List.length_take]; omega), List.foldl_cons, List.foldl_cons]
      have h1 := fold_right (onesL (b.take p)) o ho (ones_right _)
      have hcr := copy_right (k := k) (by omega)
      refine prog_fold bl n tl ls hn hbl g _ _ _ (stepO_right h1 hcr) ?_
      rw [step_size h1 hcr, fold_size _ _ ho (ones_right _), ones_size, List.length_take, List.length_drop]
      show sizeL o + min p b.length + (ByteArray.mk #[]).size + (b.length - (p + n)) ≤ 16384
      have : (ByteArray.mk #[]).size = 0 := rfl
      omega
theorem refS_right (bl : List Sg) (n tl : Nat) (ls : Sg) (hbl : bl.length ≤ 4096) : ∀ (f : Nat) (b : List UInt8) (nx : Nat), ∀ t ∈ refS bl n tl ls f b nx, rightT t = true
  | 0, _, _, t, h => by cases h
  | f + 1, [], _, t, h => by cases h
  | f + 1, x :: r, nx, t, h => by
    unfold refS at h
    split at h
    · split at h
      · rename_i k hk
        rcases List.mem_cons.1 h with rfl | h
        · exact copy_right (by have := whichL_lt hk; omega)
        · exact refS_right bl n tl ls hbl f _ _ t h
      · rcases List.mem_cons.1 h with rfl | h
        · exact byte_right x
        · exact refS_right bl n tl ls hbl f _ _ t h
    · split at h
      · rcases List.mem_cons.1 h with rfl | h
        · exact copy_right hbl
        · exact refS_right bl n tl ls hbl f _ _ t h
      · rcases List.mem_cons.1 h with rfl | h
        · exact byte_right x
        · exact refS_right bl n tl ls hbl f _ _ t h
theorem endW_right (nb tl : Nat) (ls : Sg) (b : List UInt8) (hb : b.length ≤ 16384) (hnb : nb ≤ 4096) : ∀ t ∈ endW litL nb tl ls b, rightT t = true := fun t ht => by
  unfold endW at ht
  split at ht
  · rcases List.mem_append.1 ht with ht | ht
    · exact litL_right (by rw [List.length_take]; omega) t ht
    · obtain rfl := List.mem_singleton.1 ht
      exact copy_right hnb
  · exact litL_right hb t ht
theorem progW_right (bl : List Sg) (n tl : Nat) (ls : Sg) (hn : 0 < n) (hbl : bl.length ≤ 4096) : ∀ (g : Nat) (b : List UInt8) (nx : Nat), b.length ≤ 16384 → ∀ t ∈ progW litL bl n tl ls g b nx, rightT t = true
  | 0, _, _, _, t, h => by cases h
  | g + 1, b, nx, hb, t, h => by
    unfold progW at h
    cases hc : scanA bl n (b.length + 1) 0 b nx with
    | none => rw [hc] at h; exact endW_right _ _ _ b hb hbl t h
    | some pk =>
      obtain ⟨p, k⟩ := pk
      rw [hc] at h
      simp only at h
      obtain ⟨d, e1, e2, e3, _, _⟩ := scan_some bl n tl ls hn _ _ b nx p k hc
      rcases List.mem_append.1 h with h | h
      · exact litL_right (by rw [List.length_take]; omega) t h
      · rcases List.mem_cons.1 h with rfl | h
        · exact copy_right (by omega)
        · exact progW_right bl n tl ls hn hbl g _ _ (by rw [List.length_drop]; omega) t h
theorem litL_len (b : List UInt8) : (litL b).length ≤ 1 ∧ (litL b).length ≤ b.length ∧ sizeL (litL b) = b.length := by
  unfold litL
  split
  · rename_i h; exact ⟨Nat.zero_le _, Nat.zero_le _, by rw [h]; rfl⟩
  · refine ⟨Nat.le_refl _, by simp; omega, ?_⟩
    show (ofL b).size + 0 = _
    rw [size_ofL]; omega
theorem endW_len (nb tl : Nat) (ls : Sg) (b : List UInt8) : (endW litL nb tl ls b).length ≤ b.length + 1 ∧ sizeL (endW litL nb tl ls b) ≤ b.length := by
  unfold endW
  split
  · have := litL_len (b.take (b.length - tl))
    rw [List.length_append, sizeL_app]
    rw [List.length_take] at this
    refine ⟨by simp; omega, ?_⟩
    show sizeL (litL (b.take (b.length - tl))) + ((ByteArray.mk #[]).size + 0) ≤ _
    have h0 : (ByteArray.mk #[]).size = 0 := rfl
    omega
  · have := litL_len b; omega
theorem progW_len (bl : List Sg) (n tl : Nat) (ls : Sg) (hn : 0 < n) : ∀ (g : Nat) (b : List UInt8) (nx : Nat), (progW litL bl n tl ls g b nx).length ≤ 2 * b.length + 1 ∧ sizeL (progW litL bl n tl ls g b nx) ≤ b.length
  | 0, b, _ => ⟨Nat.zero_le _, Nat.zero_le _⟩
  | g + 1, b, nx => by
    unfold progW
    cases hc : scanA bl n (b.length + 1) 0 b nx with
    | none => have := endW_len bl.length tl ls b; simp only; omega
    | some pk =>
      obtain ⟨p, k⟩ := pk
      simp only
      obtain ⟨d, e1, e2, e3, _, _⟩ := scan_some bl n tl ls hn _ _ b nx p k hc
      have h1 := litL_len (b.take p)
      have h2 := progW_len bl n tl ls hn g (b.drop (p + n)) (k + 1)
      rw [List.length_take] at h1
      rw [List.length_drop] at h2
      rw [List.length_append, sizeL_app, List.length_cons]
      refine ⟨by omega, ?_⟩
      show sizeL (litL (b.take p)) + ((ByteArray.mk #[]).size + sizeL (progW litL bl n tl ls g (b.drop (p + n)) (k + 1))) ≤ _
      have h0 : (ByteArray.mk #[]).size = 0 := rfl
      omega
/-- THE PROGRAM's TOKENS AND THE REFERENCE's, put together, are one. -/
theorem search_join (bl : List Sg) (n tl : Nat) (ls : Sg) (b : List UInt8) (hn : 0 < n) (ht : tl < n) (hbl : bl.length ≤ 4096) (hb : b.length ≤ 16384) :
    joinP (progW litL bl n tl ls (b.length + 1) b 0) = joinR (refS bl n tl ls b.length b 0) := by
  rw [joinP_eq]
  unfold joinR
  rw [right_self (progW_right bl n tl ls hn hbl _ b 0 hb), right_self (refS_right bl n tl ls hbl _ b 0), prog_fold bl n tl ls hn hbl _ b 0 [] (by simp) (by simp only [sizeL]; omega),
    progO_ref bl n tl ls hn ht (b.length + 1) b.length b 0 (Nat.le_refl _) (Nat.lt_succ_self _)]
end Go.Proofs.Ytobgbheodlpclaa
