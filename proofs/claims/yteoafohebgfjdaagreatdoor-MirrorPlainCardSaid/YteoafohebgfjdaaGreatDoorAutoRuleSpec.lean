/-
  Texts that belong together: GlobAcc, RefGlobMath, RefParseMath, RuleSpec.
-/
import Derived.Test.YteoafohebgfjdaaGreatDoorAutoGlobMatchM
import Derived.Test.YteoafohebgfjdaaGreatDoorAutoRefStands
import Derived.Test.YteoafohebgfjdaaGreatDoorAutoGlobClassPlain
import Derived.Test.YteoafohebgfjdaaGreatDoorAutoRefCore
import Derived.Test.YteoafohebgfjdaaGreatDoorAutoNodeRef
/-
  Which texts the parts of a pattern stand for, part by part; and that going over a text byte by byte tells just these.
-/
namespace Go.Proofs.YteoafohebgfjdaaGreatDoor

def manyOf (P : Nat → Bool) (f : List UInt8 → Bool) : List UInt8 → Bool
  | [] => f []
  | c :: v => f (c :: v) || (P c.toNat && manyOf P f v)
def oneOf (P : Nat → Bool) (f : List UInt8 → Bool) : List UInt8 → Bool
  | [] => false
  | c :: v => P c.toNat && f v
/-- Is a text one of the parts'? -/
def acc : List GPart → List UInt8 → Bool
  | [] => fun u => u.isEmpty
  | p :: l => if p.1 then manyOf p.2 (acc l) else oneOf p.2 (acc l)

theorem manyOf_skip {P : Nat → Bool} {f : List UInt8 → Bool} {u : List UInt8} (h : f u = true) : manyOf P f u = true := by
  cases u with
  | nil => exact h
  | cons c v => unfold manyOf; rw [h]; rfl
theorem acc_skip {l : List GPart} {i : Nat} {p : GPart} {u : List UInt8} (hi : l[i]? = some p) (hm : p.1 = true) (h : acc (l.drop (i + 1)) u = true) : acc (l.drop i) u = true := by
  have hlt := (List.getElem?_eq_some_iff.1 hi).1
  have e : l.drop i = p :: l.drop (i + 1) := by
    rw [List.drop_eq_getElem_cons hlt]
    congr 1
    exact (List.getElem?_eq_some_iff.1 hi).2
  rw [e]
  unfold acc
  rw [if_pos hm]
  exact manyOf_skip h
theorem drop_part {l : List GPart} {i : Nat} {p : GPart} (hi : l[i]? = some p) : l.drop i = p :: l.drop (i + 1) := by
  have hlt := (List.getElem?_eq_some_iff.1 hi).1
  rw [List.drop_eq_getElem_cons hlt]
  congr 1
  exact (List.getElem?_eq_some_iff.1 hi).2

def Closed (l : List GPart) (r : Nat → Bool) : Prop := (∀ i, r i = true → i ≤ l.length) ∧ ∀ i p, l[i]? = some p → p.1 = true → r i = true → r (i + 1) = true

structure StepInv (l : List GPart) (r : Nat → Bool) (c : UInt8) (k : Nat) : Prop where
  le : ∀ j, (stepN l r c.toNat k).1 j = true → j ≤ k
  closed : ∀ i p, i < k → l[i]? = some p → p.1 = true → (stepN l r c.toNat k).1 i = true → (stepN l r c.toNat k).1 (i + 1) = true
  hits : ∀ i p, i < k → l[i]? = some p → r i = true → p.2 c.toNat = true → (stepN l r c.toNat k).1 (if p.1 then i else i + 1) = true
  sound : ∀ j v, (stepN l r c.toNat k).1 j = true → acc (l.drop j) v = true → ∃ i, r i = true ∧ acc (l.drop i) (c :: v) = true
  none_ : (stepN l r c.toNat k).2 = false → ∀ j, (stepN l r c.toNat k).1 j = false

theorem stepInv (l : List GPart) (r : Nat → Bool) (c : UInt8) (k : Nat) (hk : k ≤ l.length) : StepInv l r c k := by
  induction k with
  | zero =>
    refine ⟨fun j h => ?_, fun i p h => by omega, fun i p h => by omega, fun j v h => ?_, fun _ j => rfl⟩ <;> (cases h)
  | succ k ih =>
    have ih := ih (by omega)
    obtain ⟨p, hp⟩ : ∃ p, l[k]? = some p := ⟨_, List.getElem?_eq_getElem (by omega)⟩
    have hS := stepN_succ (r := r) (b := c.toNat) hp
    obtain ⟨nx, h1⟩ : ∃ nx, (stepN l r c.toNat k).1 = nx := ⟨_, rfl⟩
    obtain ⟨sm, h2⟩ : ∃ sm, (stepN l r c.toNat k).2 = sm := ⟨_, rfl⟩
    obtain ⟨le, closed, hits, sound, none_⟩ := ih
    rw [h1] at le closed hits sound none_
    rw [h2] at none_
    unfold stepP at hS
    rw [h1, h2] at hS
    simp only at hS
    have hd := drop_part hp
    obtain ⟨m, P⟩ := p
    simp only at hS
    have nlt : ∀ j, k < j → nx j = false := fun j hj => by
      cases hn : nx j with
      | false => rfl
      | true => have := le j hn; omega
    -- what a hit adds
    obtain ⟨n1, hn1⟩ : ∃ n1, (if (r k && P c.toNat) = true then (if m = true then putR nx k else putR nx (k + 1)) else nx) = n1 := ⟨_, rfl⟩
    rw [hn1] at hS
    have sub1 : ∀ j, nx j = true → n1 j = true := fun j h => by
      rw [← hn1]
      split
      · split <;> simp [putR, h]
      · exact h
    have inv1 : ∀ j, n1 j = true → nx j = true ∨ (r k = true ∧ P c.toNat = true ∧ ((m = true ∧ j = k) ∨ (m = false ∧ j = k + 1))) := fun j h => by
      rw [← hn1] at h
      split at h
      · rename_i hh
        simp only [Bool.and_eq_true] at hh
        split at h
        · rename_i hm
          unfold putR at h
          simp only [Bool.or_eq_true, beq_iff_eq] at h
          rcases h with h | h
          · exact .inl h
          · exact .inr ⟨hh.1, hh.2, .inl ⟨hm, h⟩⟩
        · rename_i hm
          unfold putR at h
          simp only [Bool.or_eq_true, beq_iff_eq] at h
          rcases h with h | h
          · exact .inl h
          · exact .inr ⟨hh.1, hh.2, .inr ⟨by simpa using hm, h⟩⟩
      · exact .inl h
    have hit1 : r k = true → P c.toNat = true → n1 (if m = true then k else k + 1) = true := fun ha hb => by
      rw [← hn1, if_pos (by rw [ha, hb]; rfl)]
      cases m <;> simp [putR]
    obtain ⟨n2, hn2⟩ : ∃ n2, (if (n1 k && m) = true then putR n1 (k + 1) else n1) = n2 := ⟨_, rfl⟩
    rw [hn2] at hS
    have sub2 : ∀ j, n1 j = true → n2 j = true := fun j h => by
      rw [← hn2]
      split
      · simp [putR, h]
      · exact h
    have inv2 : ∀ j, n2 j = true → n1 j = true ∨ (n1 k = true ∧ m = true ∧ j = k + 1) := fun j h => by
      rw [← hn2] at h
      split at h
      · rename_i hh
        simp only [Bool.and_eq_true] at hh
        unfold putR at h
        simp only [Bool.or_eq_true, beq_iff_eq] at h
        rcases h with h | h
        · exact .inl h
        · exact .inr ⟨hh.1, hh.2, h⟩
      · exact .inl h
    have cl2 : n1 k = true → m = true → n2 (k + 1) = true := fun ha hb => by
      rw [← hn2, if_pos (by rw [ha, hb]; rfl)]
      simp [putR]
    have snd1 : ∀ j v, n1 j = true → acc (l.drop j) v = true → ∃ i, r i = true ∧ acc (l.drop i) (c :: v) = true := fun j v h ha => by
      rcases inv1 j h with h | ⟨hr, hP, ⟨hm, rfl⟩ | ⟨hm, rfl⟩⟩
      · exact sound j v h ha
      · refine ⟨j, hr, ?_⟩
        rw [hd] at ha ⊢
        unfold acc at ha ⊢
        simp only [hm, if_true] at ha ⊢
        unfold manyOf
        rw [hP, ha]
        simp
      · refine ⟨k, hr, ?_⟩
        rw [hd]
        unfold acc
        simp only [hm, Bool.false_eq_true, if_false]
        show (P c.toNat && acc (l.drop (k + 1)) v) = true
        rw [hP, ha]
        rfl
    have no1 : (sm || r k && P c.toNat) = false → ∀ j, n1 j = true → False := fun h j hj => by
      simp only [Bool.or_eq_false_iff] at h
      rcases inv1 j hj with hj | ⟨hr, hP, _⟩
      · rw [none_ h.1 j] at hj; cases hj
      · rw [hr, hP] at h; cases h.2
    refine ⟨fun j h => ?_, fun i q hi hq hm h => ?_, fun i q hi hq hr hP => ?_, fun j v h ha => ?_, fun h j => ?_⟩
    · rw [hS] at h
      rcases inv2 j h with h | ⟨_, _, rfl⟩
      · rcases inv1 j h with h | ⟨_, _, ⟨_, rfl⟩ | ⟨_, rfl⟩⟩
        · have := le j h; omega
        · omega
        · omega
      · omega
    · rw [hS] at h ⊢
      by_cases e : i = k
      · subst e
        rw [hp] at hq
        cases hq
        rcases inv2 i h with h | ⟨_, _, he⟩
        · exact cl2 h hm
        · omega
      · rcases inv2 i h with h | ⟨_, _, rfl⟩
        · rcases inv1 i h with h | ⟨_, _, ⟨_, rfl⟩ | ⟨_, rfl⟩⟩
          · exact sub2 _ (sub1 _ (closed i q (by omega) hq hm h))
          · omega
          · omega
        · omega
    · rw [hS]
      by_cases e : i = k
      · subst e
        rw [hp] at hq
        cases hq
        exact sub2 _ (hit1 hr hP)
      · exact sub2 _ (sub1 _ (hits i q (by omega) hq hr hP))
    · rw [hS] at h
      rcases inv2 j h with h | ⟨hk1, hm, rfl⟩
      · exact snd1 j v h ha
      · exact snd1 k v hk1 (acc_skip hp hm ha)
    · rw [hS] at h ⊢
      cases hj : n2 j with
      | false => exact hj
      | true =>
        rcases inv2 j hj with hj | ⟨hj, _, _⟩
        · exact (no1 h _ hj).elim
        · exact (no1 h _ hj).elim

theorem acc_nil_all {l : List GPart} {r : Nat → Bool} (hc : Closed l r) : ∀ (d i : Nat), i + d = l.length → r i = true → acc (l.drop i) [] = true → r l.length = true
  | 0, i, hd, hr, _ => by rw [show l.length = i by omega]; exact hr
  | d + 1, i, hd, hr, ha => by
    obtain ⟨p, hp⟩ : ∃ p, l[i]? = some p := ⟨_, List.getElem?_eq_getElem (by omega)⟩
    rw [drop_part hp] at ha
    unfold acc at ha
    cases hm : p.1 with
    | false => rw [hm] at ha; simp [oneOf] at ha
    | true =>
      rw [hm, if_pos rfl] at ha
      exact acc_nil_all hc d (i + 1) (by omega) (hc.2 i p hp hm hr) ha

theorem step_complete {l : List GPart} {r : Nat → Bool} (hc : Closed l r) (c : UInt8) (v : List UInt8) (hI : StepInv l r c l.length) : ∀ (d i : Nat), i + d = l.length → r i = true → acc (l.drop i) (c :: v) = true →
    ∃ j, (stepN l r c.toNat l.length).1 j = true ∧ acc (l.drop j) v = true
  | 0, i, hd, _, ha => by
    rw [List.drop_of_length_le (by omega)] at ha
    cases ha
  | d + 1, i, hd, hr, ha => by
    obtain ⟨p, hp⟩ : ∃ p, l[i]? = some p := ⟨_, List.getElem?_eq_getElem (by omega)⟩
    rw [drop_part hp] at ha
    unfold acc at ha
    cases hm : p.1 with
    | false =>
      rw [hm] at ha
      have ha : (p.2 c.toNat && acc (l.drop (i + 1)) v) = true := ha
      simp only [Bool.and_eq_true] at ha
      have := hI.hits i p (by omega) hp hr ha.1
      rw [hm] at this
      exact ⟨i + 1, this, ha.2⟩
    | true =>
      rw [hm, if_pos rfl] at ha
      have ha : (acc (l.drop (i + 1)) (c :: v) || (p.2 c.toNat && manyOf p.2 (acc (l.drop (i + 1))) v)) = true := ha
      simp only [Bool.or_eq_true, Bool.and_eq_true] at ha
      rcases ha with ha | ⟨hP, ha⟩
      · exact step_complete hc c v hI d (i + 1) (by omega) (hc.2 i p hp hm hr) ha
      · have := hI.hits i p (by omega) hp hr hP
        rw [hm] at this
        refine ⟨i, this, ?_⟩
        rw [drop_part hp]
        unfold acc
        rw [hm, if_pos rfl]
        exact ha

theorem matchR_iff (l : List GPart) : ∀ (u : List UInt8) (r : Nat → Bool), Closed l r → (matchR l r u = true ↔ ∃ i, r i = true ∧ acc (l.drop i) u = true)
  | [], r, hc => by
    constructor
    · intro h
      exact ⟨l.length, h, by rw [List.drop_of_length_le (Nat.le_refl _)]; rfl⟩
    · rintro ⟨i, hr, ha⟩
      have := hc.1 i hr
      exact acc_nil_all hc (l.length - i) i (by omega) hr ha
  | c :: v, r, hc => by
    have hI := stepInv l r c l.length (Nat.le_refl _)
    have hn : Closed l (stepN l r c.toNat l.length).1 := ⟨hI.le, fun i p hp hm h => hI.closed i p (List.getElem?_eq_some_iff.1 hp).1 hp hm h⟩
    have ih := matchR_iff l v _ hn
    rw [matchR]
    cases hs : (stepN l r c.toNat l.length).2 with
    | false =>
      rw [if_neg (by simp)]
      constructor
      · intro h; cases h
      · rintro ⟨i, hr, ha⟩
        have := hc.1 i hr
        obtain ⟨j, hj, _⟩ := step_complete hc c v hI (l.length - i) i (by omega) hr ha
        rw [hI.none_ hs j] at hj
        cases hj
    | true =>
      rw [if_pos rfl, ih]
      constructor
      · rintro ⟨j, hj, ha⟩
        exact hI.sound j v hj ha
      · rintro ⟨i, hr, ha⟩
        have := hc.1 i hr
        exact step_complete hc c v hI (l.length - i) i (by omega) hr ha

theorem lead_le : ∀ l : List GPart, lead l ≤ l.length
  | [] => Nat.le_refl _
  | p :: r => by have := lead_le r; unfold lead; split <;> simp <;> omega
theorem lead_many : ∀ (l : List GPart) (j : Nat) (p : GPart), j < lead l → l[j]? = some p → p.1 = true
  | [], j, p, h, _ => by simp [lead] at h
  | q :: r, 0, p, h, hp => by
    simp at hp
    subst hp
    unfold lead at h
    cases hq : q.1 with
    | true => rfl
    | false => rw [hq] at h; simp at h
  | q :: r, j + 1, p, h, hp => by
    unfold lead at h
    split at h
    · exact lead_many r j p (by omega) (by simpa using hp)
    · omega
theorem lead_stop : ∀ (l : List GPart) (p : GPart), l[lead l]? = some p → p.1 = false
  | [], p, h => by simp at h
  | q :: r, p, h => by
    cases hq : q.1 with
    | true =>
      unfold lead at h
      rw [hq, if_pos rfl] at h
      exact lead_stop r p (by simpa using h)
    | false =>
      unfold lead at h
      rw [hq] at h
      simp at h
      subst h
      exact hq

/-- Going over a text byte by byte tells whether it is one of the pattern's. -/
theorem matchP_acc (l : List GPart) (u : List UInt8) : matchP l u = acc l u := by
  have hc : Closed l (leR (lead l)) := by
    refine ⟨fun i h => ?_, fun i p hp hm h => ?_⟩
    · have := lead_le l
      unfold leR at h
      simp at h
      omega
    · unfold leR at h ⊢
      simp at h ⊢
      by_cases e : i = lead l
      · subst e
        rw [lead_stop l p hp] at hm
        cases hm
      · omega
  have hall : ∀ i, i ≤ lead l → acc (l.drop i) u = true → acc l u = true := by
    intro i
    induction i with
    | zero => intro _ h; exact h
    | succ i ih =>
      intro hi h
      obtain ⟨p, hp⟩ : ∃ p, l[i]? = some p := ⟨_, List.getElem?_eq_getElem (by have := lead_le l; omega)⟩
      exact ih (by omega) (acc_skip hp (lead_many l i p (by omega) hp) h)
  rw [Bool.eq_iff_iff]
  unfold matchP
  rw [matchR_iff l u _ hc]
  constructor
  · rintro ⟨i, hi, ha⟩
    unfold leR at hi
    simp at hi
    exact hall i hi ha
  · intro h
    exact ⟨0, by unfold leR; simp, h⟩

theorem globM_acc (p s : ByteArray) : globM p s = if 64 < p.size then false else match parseOf p.data.toList with
    | none => false
    | some l => acc l s.data.toList := by
  unfold globM
  split
  · rfl
  · cases parseOf p.data.toList with
    | none => rfl
    | some l => exact matchP_acc l _
end Go.Proofs.YteoafohebgfjdaaGreatDoor
/-
  The reference's rows, byte by byte and part by part, tell what the parts stand for.
-/
namespace Go.Proofs.YteoafohebgfjdaaGreatDoor
set_option maxRecDepth 100000

/-- A part of the reference's, as a part. -/
def gOf (p : RPart) : GPart := if p.many = 0 then (false, fun n => standsR p (UInt8.ofNat n)) else (true, fun n => decide (p.many = 2) || !(n == 47))
theorem gOf_one {p : RPart} (h : p.many = 0) : gOf p = (false, fun n => standsR p (UInt8.ofNat n)) := if_pos h
theorem gOf_many {p : RPart} (h : p.many ≠ 0) : gOf p = (true, fun n => decide (p.many = 2) || !(n == 47)) := if_neg h
theorem ofNat_toNat' (x : UInt8) : UInt8.ofNat x.toNat = x := by simp
theorem acc_one (p : RPart) (t : List GPart) (c : UInt8) (v : List UInt8) (h : p.many = 0) : acc (gOf p :: t) (c :: v) = (standsR p c && acc t v) := by
  rw [gOf_one h]
  show (standsR p (UInt8.ofNat c.toNat) && acc t v) = _
  rw [ofNat_toNat']
theorem acc_one_end (p : RPart) (t : List GPart) (h : p.many = 0) : acc (gOf p :: t) [] = false := by
  rw [gOf_one h]; rfl
theorem acc_many (p : RPart) (t : List GPart) (c : UInt8) (v : List UInt8) (h : p.many ≠ 0) : acc (gOf p :: t) (c :: v) = (acc t (c :: v) || ((decide (p.many = 2) || !(c == 47)) && acc (gOf p :: t) v)) := by
  rw [gOf_many h]
  show (acc t (c :: v) || ((decide (p.many = 2) || !(c.toNat == 47)) && manyOf _ (acc t) v)) = _
  have e : (c.toNat == 47) = (c == 47) := by
    rw [Bool.eq_iff_iff]
    simp only [beq_iff_eq]
    constructor
    · intro h; exact UInt8.toNat_inj.1 h
    · rintro rfl; rfl
  rw [e]
  rfl
theorem acc_many_end (p : RPart) (t : List GPart) (h : p.many ≠ 0) : acc (gOf p :: t) [] = acc t [] := by
  rw [gOf_many h]; rfl
/-- Do the parts from k on stand for the text from i on? -/
def rowAt (l : List RPart) (s : List UInt8) (k i : Nat) : Bool := acc ((l.drop k).map gOf) (s.drop i)
theorem rowAt_end (l : List RPart) (s : List UInt8) (i : Nat) (hi : i ≤ s.length) : rowAt l s l.length i = decide (i = s.length) := by
  unfold rowAt
  rw [List.drop_length]
  show (s.drop i).isEmpty = _
  rw [Bool.eq_iff_iff, List.isEmpty_iff, decide_eq_true_iff, List.drop_eq_nil_iff]
  omega
theorem rowAt_cons (l : List RPart) (s : List UInt8) (k i : Nat) (hk : k < l.length) : rowAt l s k i = acc (gOf l[k] :: (l.drop (k + 1)).map gOf) (s.drop i) := by
  unfold rowAt
  rw [List.drop_eq_getElem_cons hk]; rfl
theorem rowAt_one (l : List RPart) (s : List UInt8) (k i : Nat) (hk : k < l.length) (hi : i < s.length) (h : (l[k]).many = 0) : rowAt l s k i = (standsR l[k] s[i] && rowAt l s (k + 1) (i + 1)) := by
  rw [rowAt_cons l s k i hk, List.drop_eq_getElem_cons hi, acc_one _ _ _ _ h]; rfl
theorem rowAt_one_end (l : List RPart) (s : List UInt8) (k : Nat) (hk : k < l.length) (h : (l[k]).many = 0) : rowAt l s k s.length = false := by
  rw [rowAt_cons l s k _ hk, List.drop_length, acc_one_end _ _ h]
theorem rowAt_many (l : List RPart) (s : List UInt8) (k i : Nat) (hk : k < l.length) (hi : i < s.length) (h : (l[k]).many ≠ 0) : rowAt l s k i = (rowAt l s (k + 1) i || ((decide ((l[k]).many = 2) || !(s[i] == 47)) && rowAt l s k (i + 1))) := by
  rw [rowAt_cons l s k i hk, List.drop_eq_getElem_cons hi, acc_many _ _ _ _ h, ← List.drop_eq_getElem_cons hi, ← rowAt_cons l s k (i + 1) hk]; rfl
theorem rowAt_many_end (l : List RPart) (s : List UInt8) (k : Nat) (hk : k < l.length) (h : (l[k]).many ≠ 0) : rowAt l s k s.length = rowAt l s (k + 1) s.length := by
  rw [rowAt_cons l s k _ hk, List.drop_length, acc_many_end _ _ h]
  unfold rowAt
  rw [List.drop_length]
theorem rowAt_zero (l : List RPart) (s : List UInt8) : rowAt l s 0 0 = acc (l.map gOf) s := rfl
end Go.Proofs.YteoafohebgfjdaaGreatDoor
/-
  The reference's reading of a pattern, as mathematics: parts that say of each byte the same stand for the same texts.
-/
namespace Go.Proofs.YteoafohebgfjdaaGreatDoor
set_option maxRecDepth 100000

/-- Two parts that say of each byte the same. -/
def SameG (a b : GPart) : Prop := a.1 = b.1 ∧ ∀ c : UInt8, a.2 c.toNat = b.2 c.toNat
def SameL : List GPart → List GPart → Prop
  | [], [] => True
  | a :: l, b :: m => SameG a b ∧ SameL l m
  | _, _ => False
theorem SameL.app : ∀ {l m l' m' : List GPart}, SameL l m → SameL l' m' → SameL (l ++ l') (m ++ m')
  | [], [], _, _, _, h => h
  | _ :: _, _ :: _, _, _, h1, h => ⟨h1.1, SameL.app h1.2 h⟩
  | [], _ :: _, _, _, h1, _ => h1.elim
  | _ :: _, [], _, _, h1, _ => h1.elim
theorem manyOf_congr {P Q : Nat → Bool} {f g : List UInt8 → Bool} (hP : ∀ c : UInt8, P c.toNat = Q c.toNat) (hf : ∀ u, f u = g u) : ∀ u, manyOf P f u = manyOf Q g u
  | [] => hf []
  | c :: v => by unfold manyOf; rw [hf, hP, manyOf_congr hP hf v]
theorem acc_congr : ∀ {l m : List GPart}, SameL l m → ∀ u, acc l u = acc m u
  | [], [], _, _ => rfl
  | a :: l, b :: m, h, u => by
    unfold acc
    rw [h.1.1]
    cases b.1 with
    | true => exact manyOf_congr h.1.2 (acc_congr h.2) u
    | false =>
      show oneOf a.2 (acc l) u = oneOf b.2 (acc m) u
      cases u with
      | nil => rfl
      | cons c v =>
        show (a.2 c.toNat && acc l v) = (b.2 c.toNat && acc m v)
        rw [h.1.2, acc_congr h.2 v]
  | [], _ :: _, h, _ => h.elim
  | _ :: _, [], h, _ => h.elim

/-- The bytes of a set, as the reference keeps them: all but the slash. -/
def InsOf (ins : List UInt8) (P : Nat → Bool) : Prop := ∀ c : UInt8, hasB ins c = (P c.toNat && !(c == 47))
theorem insOf_nil : InsOf [] emptyP := fun _ => rfl
theorem span_one (c d : UInt8) : spanP d.toNat (d.toNat + 1) c.toNat = (c == d) := by
  unfold spanP
  rw [Bool.eq_iff_iff]
  simp only [Bool.and_eq_true, decide_eq_true_eq, beq_iff_eq]
  constructor
  · rintro ⟨h1, h2⟩; exact UInt8.toNat_inj.1 (by omega)
  · rintro rfl; exact ⟨Nat.le_refl _, by omega⟩
theorem span_slash (c : UInt8) : spanP 47 48 c.toNat = (c == 47) := span_one c 47
theorem span_all (c : UInt8) : spanP 0 256 c.toNat = true := by
  unfold spanP
  have := c.toNat_lt
  simp only [Bool.and_eq_true, decide_eq_true_eq]
  omega
theorem inName_byte (c : UInt8) : inNameP c.toNat = !(c == 47) := by
  unfold inNameP
  rw [span_all, span_slash]; rfl
/-- One byte more of a span. -/
theorem span_more (a k x : Nat) (h : a ≤ k) : spanP a (k + 1) x = (spanP a k x || x == k) := by
  unfold spanP
  rw [Bool.eq_iff_iff]
  simp only [Bool.and_eq_true, decide_eq_true_eq, Bool.or_eq_true, beq_iff_eq]
  omega
theorem span_none (a x : Nat) : spanP a a x = false := by
  unfold spanP
  rw [Bool.eq_false_iff]
  simp only [ne_eq, Bool.and_eq_true, decide_eq_true_eq]
  omega
theorem insOf_more {ins : List UInt8} {P : Nat → Bool} {a : Nat} {k : UInt8} (h : InsOf ins (fun x => P x || spanP a k.toNat x)) (ha : a ≤ k.toNat) :
    InsOf (if k = 47 then ins else ins ++ [k]) (fun x => P x || spanP a (k.toNat + 1) x) := fun c => by
  have h1 := h c
  simp only at h1 ⊢
  rw [span_more a k.toNat c.toNat ha]
  have hk : (c.toNat == k.toNat) = (c == k) := by
    rw [Bool.eq_iff_iff, beq_iff_eq, beq_iff_eq, UInt8.toNat_inj]
  rw [hk]
  by_cases e : k = 47
  · rw [if_pos e, h1, e]
    cases (c == 47) <;> simp
  · rw [if_neg e]
    have e2 : hasB (ins ++ [k]) c = (hasB ins c || (c == k)) := by
      unfold hasB
      rw [Bool.eq_iff_iff]
      simp only [List.contains_iff_mem, List.mem_append, List.mem_singleton, Bool.or_eq_true, beq_iff_eq]
    rw [e2, h1]
    by_cases ec : c = k
    · subst ec
      have : (c == 47) = false := beq_eq_false_iff_ne.2 e
      simp [this]
    · have : (c == k) = false := beq_eq_false_iff_ne.2 ec
      simp [this]
theorem insOf_start {ins : List UInt8} {P : Nat → Bool} (h : InsOf ins P) (a : Nat) : InsOf ins (fun x => P x || spanP a a x) := fun c => by
  simp only [span_none, Bool.or_false]; exact h c
/-- A class's part. -/
theorem class_same {ins : List UInt8} {P : Nat → Bool} (h : InsOf ins P) (no : Bool) : SameG (gOf ⟨0, ins, no, false⟩) (false, fun x => (if no then spanP 0 256 x && !P x else P x) && !spanP 47 48 x) := by
  rw [gOf_one rfl]
  refine ⟨rfl, fun c => ?_⟩
  simp only
  rw [ofNat_toNat', span_slash, span_all]
  unfold standsR
  simp only
  rw [h c]
  cases no <;> cases (P c.toNat) <;> cases (c == 47) <;> rfl
theorem single_same (d : UInt8) : SameG (gOf ⟨0, [d], false, false⟩) (false, spanP d.toNat (d.toNat + 1)) := by
  rw [gOf_one rfl]
  refine ⟨rfl, fun c => ?_⟩
  simp only
  rw [ofNat_toNat', span_one]
  unfold standsR hasB
  simp only [Bool.false_eq_true, if_false]
  rw [Bool.eq_iff_iff]
  simp
theorem any_same : SameG (gOf ⟨0, [], false, true⟩) (false, inNameP) := by
  rw [gOf_one rfl]
  refine ⟨rfl, fun c => ?_⟩
  simp only
  rw [ofNat_toNat', inName_byte]; rfl
theorem star_same : SameG (gOf ⟨1, [], false, false⟩) (true, inNameP) := by
  rw [gOf_many (by decide)]
  refine ⟨rfl, fun c => ?_⟩
  simp only
  rw [inName_byte]
  have : (c.toNat == 47) = (c == 47) := by
    rw [Bool.eq_iff_iff, beq_iff_eq, beq_iff_eq]
    exact ⟨fun h => UInt8.toNat_inj.1 h, fun h => by rw [h]; rfl⟩
  rw [this]; rfl
theorem stars_same : SameG (gOf ⟨2, [], false, false⟩) (true, spanP 0 256) := by
  rw [gOf_many (by decide)]
  refine ⟨rfl, fun c => ?_⟩
  simp only
  rw [span_all]; rfl

theorem cls_shift (P : Nat → Bool) (f : Bool) (i : Nat) (l : List UInt8) (k : Nat) : cls P f (i + k) l = (cls P f i l).map fun x => (x.1, x.2 + k) := by
  induction P, f, i, l using cls.induct generalizing k with
  | case1 => rw [cls.eq_def, cls.eq_def]; rfl
  | case2 P f i c r hc =>
    rw [cls.eq_def, cls.eq_def]
    simp only [hc, if_true, Option.map_some]
  | case3 P f i c r hc hm =>
    rw [cls.eq_def, cls.eq_def]
    simp only [hc, hm, if_true, Bool.false_eq_true, if_false, Option.map_none]
  | case4 P f i c hc hm d e r' hd hb =>
    rw [cls.eq_def, cls.eq_def]
    simp only [hc, hm, hd, hb, if_true, Bool.false_eq_true, if_false, Option.map_none]
  | case5 P f i c hc hm d e r' hd hb ih =>
    rw [cls.eq_def, cls.eq_def (i := i)]
    simp only [hc, hm, hd, hb, if_true, Bool.false_eq_true, if_false]
    rw [← ih k, show i + k + 3 = i + 3 + k by omega]
  | case6 P f i c hc hm d e r' hd ih =>
    rw [cls.eq_def, cls.eq_def (i := i)]
    simp only [hc, hm, hd, Bool.false_eq_true, if_false]
    rw [← ih k, show i + k + 1 = i + 1 + k by omega]
  | case7 P f i c hc hm d ih =>
    rw [cls.eq_def, cls.eq_def (i := i)]
    simp only [hc, hm, Bool.false_eq_true, if_false]
    rw [← ih k, show i + k + 1 = i + 1 + k by omega]
  | case8 P f i c hc hm =>
    rw [cls.eq_def, cls.eq_def (i := i)]
    simp only [hc, hm, Bool.false_eq_true, if_false, Option.map_none]

/-- A class that begins at place k of a text, told by the places of the text. -/
theorem classOf_at (L : List UInt8) (k : Nat) (no : Bool) (hn : Lib.hasPrefix (L.drop (k + 1)) [33] = no) (b : Nat) (hb : b = if no then k + 2 else k + 1) :
    classOf (L.drop k) = match cls emptyP true b (L.drop b) with
      | none => none
      | some (P, i) => some ((false, fun x => (if no then spanP 0 256 x && !P x else P x) && !spanP 47 48 x), i + 1 - k) := by
  unfold classOf
  rw [List.drop_drop, hn]
  have e := cls_shift emptyP true (if no then 2 else 1) (L.drop b) k
  have hb2 : (if no then 2 else 1) + k = b := by rw [hb]; cases no <;> simp <;> omega
  rw [hb2] at e
  simp only [List.drop_drop]
  rw [show k + (if no then 2 else 1) = b by omega, e]
  cases hc : cls emptyP true (if no then 2 else 1) (L.drop b) with
  | none => rfl
  | some x =>
    obtain ⟨P, i⟩ := x
    simp only [Option.map_some]
    rw [show i + k + 1 - k = i + 1 by omega]
end Go.Proofs.YteoafohebgfjdaaGreatDoor
/-
  Which rules are right, and what they match, as plain functions on lists of bytes. Nothing of a program stands here.
-/
namespace Go.Proofs.YteoafohebgfjdaaGreatDoor
set_option maxRecDepth 100000

theorem size_toL (t : ByteArray) : (toL t).length = t.size := by simp [toL]
def coreL (p : List UInt8) : List UInt8 := (cutT (cutH p).1).1
def wholeL (p : List UInt8) : Bool := (cutH p).2
def mustL (p : List UInt8) : Bool := (cutT (cutH p).1).2
theorem cutH_len (l : List UInt8) : (cutH l).1.length ≤ l.length := by unfold cutH; split <;> simp
theorem cutT_len (l : List UInt8) : (cutT l).1.length ≤ l.length := by unfold cutT; split <;> simp
theorem coreL_len (p : List UInt8) : (coreL p).length ≤ p.length := Nat.le_trans (cutT_len _) (cutH_len _)
/-- What is wrong with a rule: an error's number. -/
def checkL (p : List UInt8) : Nat := if 64 < p.length then 5 else if coreL p = [] then 3 else match parseOf (coreL p) with | none => 3 | some _ => 0
def partsL (p : List UInt8) : List GPart := (parseOf (coreL p)).getD []
theorem checkL_long {p : List UInt8} (h : 64 < p.length) : checkL p = 5 := if_pos h
theorem checkL_empty {p : List UInt8} (h : ¬ 64 < p.length) (he : coreL p = []) : checkL p = 3 := by unfold checkL; rw [if_neg h, if_pos he]
theorem checkL_none {p : List UInt8} (h : ¬ 64 < p.length) (hn : parseOf (coreL p) = none) : checkL p = 3 := by
  unfold checkL; rw [if_neg h]
  split
  · rfl
  · rw [hn]
theorem checkL_some {p : List UInt8} {g : List GPart} (h : ¬ 64 < p.length) (he : coreL p ≠ []) (hn : parseOf (coreL p) = some g) : checkL p = 0 ∧ partsL p = g := by
  refine ⟨?_, by unfold partsL; rw [hn]; rfl⟩
  unfold checkL; rw [if_neg h, if_neg he, hn]
theorem checkL_ok {p : List UInt8} (h : checkL p = 0) : ¬ 64 < p.length ∧ coreL p ≠ [] ∧ parseOf (coreL p) = some (partsL p) := by
  unfold checkL at h
  split at h
  · cases h
  · rename_i h1
    split at h
    · cases h
    · rename_i h2
      refine ⟨h1, h2, ?_⟩
      cases hp : parseOf (coreL p) with
      | none => rw [hp] at h; cases h
      | some g => unfold partsL; rw [hp]; rfl
/-- A path's ends: the whole of it first, and what stands behind each of its slashes. -/
def tailsL (p : List UInt8) : List (List UInt8) := (List.range (namesL p).length).map fun i => glueL ((namesL p).drop i)
theorem tailsL_len (p : List UInt8) : (tailsL p).length = (namesL p).length := by simp [tailsL]
def fitsL (pat p : List UInt8) : Bool := (if wholeL pat then (tailsL p).take 1 else tailsL p).any (acc (partsL pat))
/-- Does a rule match a path? -/
def matchesL (pat p : List UInt8) (dir : Bool) : Bool := checkL pat == 0 && !(namesL p).isEmpty && (!mustL pat || dir) && fitsL pat p
theorem matchesL_bad {pat p : List UInt8} {dir : Bool} (h : checkL pat ≠ 0) : matchesL pat p dir = false := by
  unfold matchesL; rw [beq_eq_false_iff_ne.2 h]; rfl
theorem matchesL_no {pat p : List UInt8} {dir : Bool} (h : namesL p = []) : matchesL pat p dir = false := by
  unfold matchesL; rw [h]; simp
theorem matchesL_dir {pat p : List UInt8} {dir : Bool} (h : mustL pat = true) (hd : dir = false) : matchesL pat p dir = false := by
  unfold matchesL; rw [h, hd]; simp
theorem matchesL_fits {pat p : List UInt8} {dir : Bool} (h : checkL pat = 0) (hn : namesL p ≠ []) (hd : mustL pat = false ∨ dir = true) : matchesL pat p dir = fitsL pat p := by
  unfold matchesL
  rw [h]
  have h2 : (namesL p).isEmpty = false := by
    cases hc : namesL p with
    | nil => exact absurd hc hn
    | cons a t => rfl
  rw [h2]
  rcases hd with hd | hd <;> rw [hd] <;> simp
/-- Is a path kept by rules? -/
def keepsL (p : List UInt8) (dir : Bool) : List (Bool × List UInt8) → Bool
  | [] => true
  | r :: t => if matchesL r.2 p dir then r.1 else keepsL p dir t
/-- Is a path shut out by rules? -/
def shutL (l : List (Bool × List UInt8)) (p : List UInt8) (dir : Bool) : Bool := ((List.range (namesL p).length).drop 1).any (fun i => !keepsL (glueL ((namesL p).take i)) true l) || !keepsL p dir l

theorem fits_step {pat p : List UInt8} {i : Nat} (hi : i < (namesL p).length) (h : ((tailsL p).take i).any (acc (partsL pat)) = false) :
    (acc (partsL pat) (glueL ((namesL p).drop i)) = false → ((tailsL p).take (i + 1)).any (acc (partsL pat)) = false) ∧ (acc (partsL pat) (glueL ((namesL p).drop i)) = true → (wholeL pat = true → i = 0) → fitsL pat p = true) := by
  have hlt : i < (tailsL p).length := by rw [tailsL_len]; exact hi
  have e : (tailsL p)[i] = glueL ((namesL p).drop i) := by simp [tailsL]
  refine ⟨fun ha => ?_, fun ha hw => ?_⟩
  · rw [List.take_succ_eq_append_getElem hlt, List.any_append, h, e]
    simp [ha]
  · unfold fitsL
    split
    · rename_i hwt
      obtain rfl := hw hwt
      rw [show (1 : Nat) = 0 + 1 from rfl, List.take_succ_eq_append_getElem hlt, List.any_append, e, List.any_cons, ha]
      simp
    · rw [List.any_eq_true]
      exact ⟨_, List.getElem_mem hlt, by rw [e]; exact ha⟩
theorem fits_whole {pat p : List UInt8} (h : ((tailsL p).take 1).any (acc (partsL pat)) = false) (hw : wholeL pat = true) : fitsL pat p = false := by
  unfold fitsL; rw [hw, if_pos rfl]; exact h
theorem fits_all {pat p : List UInt8} (h : ((tailsL p).take (namesL p).length).any (acc (partsL pat)) = false) (hw : wholeL pat = false) : fitsL pat p = false := by
  unfold fitsL; rw [hw]
  rw [List.take_of_length_le (by rw [tailsL_len]; exact Nat.le_refl _)] at h
  exact h
theorem names_whole {p : List UInt8} (h : namesL p ≠ []) : glueL (namesL p) = p := by
  rw [names_cut] at h ⊢
  cases hr : rightL p with
  | false => rw [hr] at h; exact absurd rfl h
  | true => rw [if_pos rfl, glue_cut]
theorem tail_len (p : List UInt8) (i : Nat) : (glueL ((namesL p).drop i)).length ≤ p.length := by
  by_cases h : namesL p = []
  · rw [h]; simp [glueL]
  · have hw := names_whole h
    by_cases hi : i = 0
    · subst hi
      rw [List.drop_zero, hw]; exact Nat.le_refl _
    · by_cases hl : i < (namesL p).length
      · have e := List.take_append_drop i (namesL p)
        rw [← e, glue_append _ _ (by
          intro h2
          rcases List.take_eq_nil_iff.1 h2 with h3 | h3
          · exact hi h3
          · exact h h3) (by
          intro h2
          have := List.drop_eq_nil_iff.1 h2
          omega)] at hw
        have := congrArg List.length hw
        simp at this
        omega
      · rw [List.drop_of_length_le (by omega)]; simp [glueL]
theorem head_len (p : List UInt8) (i : Nat) : (glueL ((namesL p).take i)).length ≤ p.length := by
  by_cases h : namesL p = []
  · rw [h]; simp [glueL]
  · have hw := names_whole h
    by_cases hi : i = 0
    · subst hi; simp [glueL]
    · by_cases hl : i < (namesL p).length
      · have e := List.take_append_drop i (namesL p)
        rw [← e, glue_append _ _ (by
          intro h2
          rcases List.take_eq_nil_iff.1 h2 with h3 | h3
          · exact hi h3
          · exact h h3) (by
          intro h2
          have := List.drop_eq_nil_iff.1 h2
          omega)] at hw
        have := congrArg List.length hw
        simp at this
        omega
      · rw [List.take_of_length_le (by omega), hw]; exact Nat.le_refl _
end Go.Proofs.YteoafohebgfjdaaGreatDoor
