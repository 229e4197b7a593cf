/-
  Reading edits' lines, in plain words: what the program's Read takes is just what has a line, and the reference's candidate is that one.
-/
import Derived.Test.YtlohoamhgioheaaDoorEdRead
import Derived.Test.YtlohoamhgioheaaDoorEdWords
namespace Go.Proofs.YtlohoamhgioheaaDoor
open Go.RowKit
set_option maxRecDepth 100000

theorem split_each {P : UInt8 → Prop} : ∀ l : List UInt8, (∀ x ∈ splitL l, ∀ c ∈ x, P c) → ∀ c ∈ l, c = 47 ∨ P c
  | [], _, c, hc => by cases hc
  | d :: r, h, c, hc => by
    unfold splitL at h
    by_cases hd : (d == 47) = true
    · rw [if_pos hd] at h
      rcases List.mem_cons.1 hc with rfl | hc
      · left; simpa using hd
      · exact split_each r (fun x hx => h x (List.mem_cons_of_mem _ hx)) c hc
    · rw [if_neg hd] at h
      cases hs : splitL r with
      | nil => exact absurd hs (splitL_ne r)
      | cons a t =>
        rw [hs] at h
        simp only at h
        rcases List.mem_cons.1 hc with rfl | hc
        · right; exact h (c :: a) List.mem_cons_self c List.mem_cons_self
        · refine split_each r (fun x hx y hy => ?_) c hc
          rw [hs] at hx
          rcases List.mem_cons.1 hx with rfl | hx
          · exact h (d :: x) List.mem_cons_self y (List.mem_cons_of_mem _ hy)
          · exact h x (List.mem_cons_of_mem _ hx) y hy
theorem letter_blank : letter ((32 : UInt8).toNat) = false := by decide
theorem right_blank {l : List UInt8} (h : rightL l = true) : ∀ c ∈ l, c ≠ 32 := by
  intro c hc e
  subst e
  unfold rightL at h
  cases he : l.isEmpty with
  | true => rw [List.isEmpty_iff.1 he] at hc; cases hc
  | false =>
    rw [he, Bool.false_or, Bool.and_eq_true] at h
    have := split_each (P := fun c => letter c.toNat = true) l (fun x hx c hc => by
      have hn := List.all_eq_true.1 h.1 x hx
      unfold nameL at hn
      simp only [Bool.and_eq_true] at hn
      exact List.all_eq_true.1 hn.2 c hc) 32 hc
    rcases this with h1 | h1
    · cases h1
    · rw [letter_blank] at h1; cases h1
theorem right_okay {k : Int} {f t : ByteArray} {n : Int} (h : rightE k f t n = true) : Okay ⟨k, toL f, toL t, n⟩ := by
  unfold rightE pathE at h
  simp only [Bool.and_eq_true, Bool.not_eq_true', decide_eq_true_eq] at h
  obtain ⟨hw, ⟨hf1, hf2⟩, ⟨ht1, ht2⟩, _, hn, h0, h1⟩ := h
  refine ⟨fun e => ?_, right_blank hf2, right_blank ht2, fun hh => ?_, fun hh => ?_, fun hh => ?_, h0, by show n ≤ 511; omega⟩
  · have e' : wordL k = [] := e
    rw [e'] at hw; cases hw
  · have hh' : hasX k 1 = false := hh
    rw [hh', Lib.toList_data] at hf1
    have : f.data.toList.isEmpty = true := by simpa using hf1
    exact List.isEmpty_iff.1 this
  · have hh' : hasX k 2 = false := hh
    rw [hh', Lib.toList_data] at ht1
    have : t.data.toList.isEmpty = true := by simpa using ht1
    exact List.isEmpty_iff.1 this
  · have hh' : hasX k 4 = false := hh
    rw [hh'] at hn
    simpa using hn
theorem parts_toL (k : Int) (f t : ByteArray) (n : Int) : (partsB k f t n).map toL = partsE ⟨k, toL f, toL t, n⟩ := by
  have e1 : toL (wordB k) = wordL k := wordB_toL k
  have e2 : toL (numB n) = Lib.itoa n := by unfold toL numB; simp
  unfold partsB partsE
  simp only [List.map_cons, List.map_append, e1]
  show wordL k :: _ = wordL k :: (((if hasX k 1 = true then [toL f] else []) ++ (if hasX k 2 = true then [toL t] else [])) ++ (if hasX k 4 = true then [Lib.itoa n] else []))
  cases hasX k 1 <;> cases hasX k 2 <;> cases hasX k 4 <;> simp [e2]
theorem line_toL {k : Int} {f t : ByteArray} {n : Int} (h : rightE k f t n = true) : toL (lineB k f t n) = Lib.join (partsE ⟨k, toL f, toL t, n⟩) [32] := by
  rw [← parts_toL]
  unfold lineB
  rw [if_pos h]
  simp [toL]
theorem line_ne {k : Int} {f t : ByteArray} {n : Int} (h : rightE k f t n = true) : toL (lineB k f t n) ≠ [] := by
  rw [line_toL h]
  unfold partsE
  rw [Lib.join_cons]
  intro e
  exact (right_okay h).w (List.append_eq_nil_iff.1 e).1
theorem guess_toL (s : ByteArray) : (⟨(guessT s).k, toL (guessT s).f, toL (guessT s).t, (guessT s).n⟩ : Ed) = guessE (toL s) := by
  have hE : toL (⟨#[]⟩ : ByteArray) = [] := rfl
  have hk : gK s = kindL (headW (toL s)) := rfl
  have h1 : ∀ k, hasX k 1 = hasF k := fun _ => rfl
  have h2 : ∀ k, hasX k 2 = hasT k := fun _ => rfl
  have h4 : ∀ k, hasX k 4 = hasN k := fun _ => rfl
  unfold guessT guessE g2 g1
  simp only [h1, h2, h4, hk]
  cases hasF (kindL (headW (toL s))) <;> cases hasT (kindL (headW (toL s))) <;> cases hasN (kindL (headW (toL s))) <;> simp [hd_toL, tl_toL, hE]
/-- The line of a right edit is read as that edit. -/
theorem guess_of {k : Int} {f t : ByteArray} {n : Int} (h : rightE k f t n = true) : guessT (lineB k f t n) = ⟨k, f, t, n⟩ := by
  have h1 := guess_toL (lineB k f t n)
  rw [line_toL h, guess_line (right_okay h)] at h1
  have a1 := congrArg Ed.k h1
  have a2 := congrArg Ed.f h1
  have a3 := congrArg Ed.t h1
  have a4 := congrArg Ed.n h1
  simp only at a1 a2 a3 a4
  generalize guessT (lineB k f t n) = G at a1 a2 a3 a4
  obtain ⟨gk, gf, gt, gn⟩ := G
  simp only at a1 a2 a3 a4
  rw [a1, bytes_ext a2, bytes_ext a3, a4]
theorem toL_empty_iff (s : ByteArray) : s.toList.isEmpty = true ↔ toL s = [] := by rw [Lib.toList_data]; exact List.isEmpty_iff
theorem same_iff (a b : ByteArray) : (a.toList == b.toList) = true ↔ a = b := by
  rw [beq_iff_eq, Lib.toList_data, Lib.toList_data]
  exact ⟨fun h => bytes_ext h, fun h => by rw [h]⟩
theorem ok_of {k : Int} {f t : ByteArray} {n : Int} (h : rightE k f t n = true) : okR (lineB k f t n) = true ∧ readT (lineB k f t n) = ⟨k, f, t, n⟩ := by
  have hg := guess_of h
  have ho : okR (lineB k f t n) = true := by
    unfold okR
    rw [hg]
    show (!(lineB k f t n).toList.isEmpty && ((lineB k f t n).toList == (lineB k f t n).toList)) = true
    rw [Bool.and_eq_true]
    refine ⟨?_, (same_iff _ _).2 rfl⟩
    cases he : (lineB k f t n).toList.isEmpty with
    | false => rfl
    | true => exact absurd ((toL_empty_iff _).1 he) (line_ne h)
  exact ⟨ho, by unfold readT; rw [if_pos ho, hg]⟩
/-- What Read takes is the line of a right edit. -/
theorem ok_facts {s : ByteArray} (h : okR s = true) : rightE (guessT s).k (guessT s).f (guessT s).t (guessT s).n = true ∧ s = lineB (guessT s).k (guessT s).f (guessT s).t (guessT s).n := by
  unfold okR at h
  rw [Bool.and_eq_true] at h
  have hs := (same_iff _ _).1 h.2
  have hne : toL (lineT (guessT s)) ≠ [] := fun e => by
    rw [(toL_empty_iff _).2 e] at h; cases h.1
  refine ⟨?_, hs.symm⟩
  cases hr : rightE (guessT s).k (guessT s).f (guessT s).t (guessT s).n with
  | true => rfl
  | false =>
    exfalso
    apply hne
    unfold lineT lineB
    rw [hr]; rfl
theorem ok_words {s : ByteArray} (h : okR s = true) : wordsW (toL s) = (partsB (guessT s).k (guessT s).f (guessT s).t (guessT s).n).map toL := by
  obtain ⟨h1, h2⟩ := ok_facts h
  rw [parts_toL]
  conv => lhs; rw [h2, line_toL h1]
  exact words_line (right_okay h1)
theorem ok_kind {s : ByteArray} (h : okR s = true) : 1 ≤ (guessT s).k ∧ (guessT s).k ≤ 9 ∧ 0 ≤ (guessT s).n ∧ (guessT s).n ≤ 511 ∧ (hasX (guessT s).k 4 = false → (guessT s).n = 0) := by
  have h1 := right_okay (ok_facts h).1
  have h2 := kinds_cases h1.w
  have e : (⟨(guessT s).k, toL (guessT s).f, toL (guessT s).t, (guessT s).n⟩ : Ed).k = (guessT s).k := rfl
  rw [e] at h2
  exact ⟨by omega, by omega, h1.n0, h1.n1, h1.nn⟩
/-- The candidate of a kind, out of a line's words. -/
def cF (cs : List ByteArray) (k : Int) : ByteArray := if hasX k 1 && decide (1 < cs.length) then cs[1]?.getD ⟨#[]⟩ else ⟨#[]⟩
def cA (cs : List ByteArray) (k : Int) : Nat := if hasX k 1 && decide (1 < cs.length) then 2 else 1
def cT (cs : List ByteArray) (k : Int) : ByteArray := if hasX k 2 && decide (cA cs k < cs.length) then cs[cA cs k]?.getD ⟨#[]⟩ else ⟨#[]⟩
theorem map_toL_inj : ∀ {a b : List ByteArray}, a.map toL = b.map toL → a = b
  | [], [], _ => rfl
  | [], _ :: _, h => by cases h
  | _ :: _, [], h => by cases h
  | x :: a, y :: b, h => by
    simp only [List.map_cons, List.cons.injEq] at h
    rw [bytes_ext h.1, map_toL_inj h.2]
theorem cand_ok {s : ByteArray} {cs : List ByteArray} (hcs : cs.map toL = wordsW (toL s)) (h : okR s = true) : cs[0]? = some (wordB (guessT s).k) ∧ cF cs (guessT s).k = (guessT s).f ∧ cT cs (guessT s).k = (guessT s).t := by
  have hw := ok_words h
  have ho := right_okay (ok_facts h).1
  have e : cs = partsB (guessT s).k (guessT s).f (guessT s).t (guessT s).n := map_toL_inj (hcs.trans hw)
  have nf : hasX (guessT s).k 1 = false → toL (guessT s).f = [] := ho.nf
  have nt : hasX (guessT s).k 2 = false → toL (guessT s).t = [] := ho.nt
  generalize (guessT s).k = k at e nf nt
  generalize (guessT s).f = f at e nf
  generalize (guessT s).t = t at e nt
  generalize (guessT s).n = n at e
  subst e
  refine ⟨rfl, ?_⟩
  unfold cF cT cA partsB
  cases h1 : hasX k 1
  · have ef : f = ⟨#[]⟩ := bytes_ext (nf h1)
    cases h2 : hasX k 2
    · have et : t = ⟨#[]⟩ := bytes_ext (nt h2)
      subst ef et
      exact ⟨rfl, rfl⟩
    · subst ef
      cases hasX k 4 <;> exact ⟨rfl, rfl⟩
  · cases h2 : hasX k 2
    · have et : t = ⟨#[]⟩ := bytes_ext (nt h2)
      subst et
      cases hasX k 4 <;> exact ⟨rfl, rfl⟩
    · cases hasX k 4 <;> exact ⟨rfl, rfl⟩
/-- A candidate whose line this is, is what Read takes. -/
theorem cand_hit {s : ByteArray} {cs : List ByteArray} {k n : Int} (hcs : cs.map toL = wordsW (toL s)) (h0 : cs[0]? = some (wordB k)) (hk : wordL k ≠ []) (h : lineB k (cF cs k) (cT cs k) n = s) : okR s = true ∧ readT s = ⟨k, cF cs k, cT cs k, n⟩ := by
  cases hr : rightE k (cF cs k) (cT cs k) n with
  | true =>
    have := ok_of hr
    rw [h] at this
    exact this
  | false =>
    exfalso
    have e : s = ⟨#[]⟩ := by rw [← h]; unfold lineB; rw [hr]; rfl
    subst e
    have e2 : cs.map toL = [[]] := hcs
    have e3 := congrArg (·[0]?) e2
    simp only [List.getElem?_map, h0, Option.map_some] at e3
    have e4 : toL (wordB k) = [] := by simpa using e3
    exact hk (by rw [← wordB_toL]; exact e4)
end Go.Proofs.YtlohoamhgioheaaDoor
