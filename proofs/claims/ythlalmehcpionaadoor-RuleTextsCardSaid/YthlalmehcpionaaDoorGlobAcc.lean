/-
  Which texts the parts of a pattern stand for, part by part; and that going over a text byte by byte tells just these.
-/
import Derived.Test.YthlalmehcpionaaDoorGlobMatchM
namespace Go.Proofs.YthlalmehcpionaaDoor

def manyOf (P : Nat → Bool) (f : List UInt8 → Bool) : List UInt8 → Bool
  | [] => f []
  | c :: v => f (c :: v) || (P c.toNat && manyOf P f v)
def oneOf (P : Nat → Bool) (f : List UInt8 → Bool) : List UInt8 → Bool
  | [] => false
  | c :: v => P c.toNat && f v
/-- Is a text one of the parts'? -/
def acc : List GPart → List UInt8 → Bool
  | [] => fun u => u.isEmpty
  | p :: l => if p.1 then manyOf p.2 (acc l) else oneOf p.2 (acc l)

theorem manyOf_skip {P : Nat → Bool} {f : List UInt8 → Bool} {u : List UInt8} (h : f u = true) : manyOf P f u = true := by
  cases u with
  | nil => exact h
  | cons c v => unfold manyOf; rw [h]; rfl
theorem acc_skip {l : List GPart} {i : Nat} {p : GPart} {u : List UInt8} (hi : l[i]? = some p) (hm : p.1 = true) (h : acc (l.drop (i + 1)) u = true) : acc (l.drop i) u = true := by
  have hlt := (List.getElem?_eq_some_iff.1 hi).1
  have e : l.drop i = p :: l.drop (i + 1) := by
    rw [List.drop_eq_getElem_cons hlt]
    congr 1
    exact (List.getElem?_eq_some_iff.1 hi).2
  rw [e]
  unfold acc
  rw [if_pos hm]
  exact manyOf_skip h
theorem drop_part {l : List GPart} {i : Nat} {p : GPart} (hi : l[i]? = some p) : l.drop i = p :: l.drop (i + 1) := by
  have hlt := (List.getElem?_eq_some_iff.1 hi).1
  rw [List.drop_eq_getElem_cons hlt]
  congr 1
  exact (List.getElem?_eq_some_iff.1 hi).2

def Closed (l : List GPart) (r : Nat → Bool) : Prop := (∀ i, r i = true → i ≤ l.length) ∧ ∀ i p, l[i]? = some p → p.1 = true → r i = true → r (i + 1) = true

structure StepInv (l : List GPart) (r : Nat → Bool) (c : UInt8) (k : Nat) : Prop where
  le : ∀ j, (stepN l r c.toNat k).1 j = true → j ≤ k
  closed : ∀ i p, i < k → l[i]? = some p → p.1 = true → (stepN l r c.toNat k).1 i = true → (stepN l r c.toNat k).1 (i + 1) = true
  hits : ∀ i p, i < k → l[i]? = some p → r i = true → p.2 c.toNat = true → (stepN l r c.toNat k).1 (if p.1 then i else i + 1) = true
  sound : ∀ j v, (stepN l r c.toNat k).1 j = true → acc (l.drop j) v = true → ∃ i, r i = true ∧ acc (l.drop i) (c :: v) = true
  none_ : (stepN l r c.toNat k).2 = false → ∀ j, (stepN l r c.toNat k).1 j = false

theorem stepInv (l : List GPart) (r : Nat → Bool) (c : UInt8) (k : Nat) (hk : k ≤ l.length) : StepInv l r c k := by
  induction k with
  | zero =>
    refine ⟨fun j h => ?_, fun i p h => by omega, fun i p h => by omega, fun j v h => ?_, fun _ j => rfl⟩ <;> (cases h)
  | succ k ih =>
    have ih := ih (by omega)
    obtain ⟨p, hp⟩ : ∃ p, l[k]? = some p := ⟨_, List.getElem?_eq_getElem (by omega)⟩
    have hS := stepN_succ (r := r) (b := c.toNat) hp
    obtain ⟨nx, h1⟩ : ∃ nx, (stepN l r c.toNat k).1 = nx := ⟨_, rfl⟩
    obtain ⟨sm, h2⟩ : ∃ sm, (stepN l r c.toNat k).2 = sm := ⟨_, rfl⟩
    obtain ⟨le, closed, hits, sound, none_⟩ := ih
    rw [h1] at le closed hits sound none_
    rw [h2] at none_
    unfold stepP at hS
    rw [h1, h2] at hS
    simp only at hS
    have hd := drop_part hp
    obtain ⟨m, P⟩ := p
    simp only at hS
    have nlt : ∀ j, k < j → nx j = false := fun j hj => by
      cases hn : nx j with
      | false => rfl
      | true => have := le j hn; omega
    -- what a hit adds
    obtain ⟨n1, hn1⟩ : ∃ n1, (if (r k && P c.toNat) = true then (if m = true then putR nx k else putR nx (k + 1)) else nx) = n1 := ⟨_, rfl⟩
    rw [hn1] at hS
    have sub1 : ∀ j, nx j = true → n1 j = true := fun j h => by
      rw [← hn1]
      split
      · split <;> simp [putR, h]
      · exact h
    have inv1 : ∀ j, n1 j = true → nx j = true ∨ (r k = true ∧ P c.toNat = true ∧ ((m = true ∧ j = k) ∨ (m = false ∧ j = k + 1))) := fun j h => by
      rw [← hn1] at h
      split at h
      · rename_i hh
        simp only [Bool.and_eq_true] at hh
        split at h
        · rename_i hm
          unfold putR at h
          simp only [Bool.or_eq_true, beq_iff_eq] at h
          rcases h with h | h
          · exact .inl h
          · exact .inr ⟨hh.1, hh.2, .inl ⟨hm, h⟩⟩
        · rename_i hm
          unfold putR at h
          simp only [Bool.or_eq_true, beq_iff_eq] at h
          rcases h with h | h
          · exact .inl h
          · exact .inr ⟨hh.1, hh.2, .inr ⟨by simpa using hm, h⟩⟩
      · exact .inl h
    have hit1 : r k = true → P c.toNat = true → n1 (if m = true then k else k + 1) = true := fun ha hb => by
      rw [← hn1, if_pos (by rw [ha, hb]; rfl)]
      cases m <;> simp [putR]
    obtain ⟨n2, hn2⟩ : ∃ n2, (if (n1 k && m) = true then putR n1 (k + 1) else n1) = n2 := ⟨_, rfl⟩
    rw [hn2] at hS
    have sub2 : ∀ j, n1 j = true → n2 j = true := fun j h => by
      rw [← hn2]
      split
      · simp [putR, h]
      · exact h
    have inv2 : ∀ j, n2 j = true → n1 j = true ∨ (n1 k = true ∧ m = true ∧ j = k + 1) := fun j h => by
      rw [← hn2] at h
      split at h
      · rename_i hh
        simp only [Bool.and_eq_true] at hh
        unfold putR at h
        simp only [Bool.or_eq_true, beq_iff_eq] at h
        rcases h with h | h
        · exact .inl h
        · exact .inr ⟨hh.1, hh.2, h⟩
      · exact .inl h
    have cl2 : n1 k = true → m = true → n2 (k + 1) = true := fun ha hb => by
      rw [← hn2, if_pos (by rw [ha, hb]; rfl)]
      simp [putR]
    have snd1 : ∀ j v, n1 j = true → acc (l.drop j) v = true → ∃ i, r i = true ∧ acc (l.drop i) (c :: v) = true := fun j v h ha => by
      rcases inv1 j h with h | ⟨hr, hP, ⟨hm, rfl⟩ | ⟨hm, rfl⟩⟩
      · exact sound j v h ha
      · refine ⟨j, hr, ?_⟩
        rw [hd] at ha ⊢
        unfold acc at ha ⊢
        simp only [hm, if_true] at ha ⊢
        unfold manyOf
        rw [hP, ha]
        simp
      · refine ⟨k, hr, ?_⟩
        rw [hd]
        unfold acc
        simp only [hm, Bool.false_eq_true, if_false]
        show (P c.toNat && acc (l.drop (k + 1)) v) = true
        rw [hP, ha]
        rfl
    have no1 : (sm || r k && P c.toNat) = false → ∀ j, n1 j = true → False := fun h j hj => by
      simp only [Bool.or_eq_false_iff] at h
      rcases inv1 j hj with hj | ⟨hr, hP, _⟩
      · rw [none_ h.1 j] at hj; cases hj
      · rw [hr, hP] at h; cases h.2
    refine ⟨fun j h => ?_, fun i q hi hq hm h => ?_, fun i q hi hq hr hP => ?_, fun j v h ha => ?_, fun h j => ?_⟩
    · rw [hS] at h
      rcases inv2 j h with h | ⟨_, _, rfl⟩
      · rcases inv1 j h with h | ⟨_, _, ⟨_, rfl⟩ | ⟨_, rfl⟩⟩
        · have := le j h; omega
        · omega
        · omega
      · omega
    · rw [hS] at h ⊢
      by_cases e : i = k
      · subst e
        rw [hp] at hq
        cases hq
        rcases inv2 i h with h | ⟨_, _, he⟩
        · exact cl2 h hm
        · omega
      · rcases inv2 i h with h | ⟨_, _, rfl⟩
        · rcases inv1 i h with h | ⟨_, _, ⟨_, rfl⟩ | ⟨_, rfl⟩⟩
          · exact sub2 _ (sub1 _ (closed i q (by omega) hq hm h))
          · omega
          · omega
        · omega
    · rw [hS]
      by_cases e : i = k
      · subst e
        rw [hp] at hq
        cases hq
        exact sub2 _ (hit1 hr hP)
      · exact sub2 _ (sub1 _ (hits i q (by omega) hq hr hP))
    · rw [hS] at h
      rcases inv2 j h with h | ⟨hk1, hm, rfl⟩
      · exact snd1 j v h ha
      · exact snd1 k v hk1 (acc_skip hp hm ha)
    · rw [hS] at h ⊢
      cases hj : n2 j with
      | false => exact hj
      | true =>
        rcases inv2 j hj with hj | ⟨hj, _, _⟩
        · exact (no1 h _ hj).elim
        · exact (no1 h _ hj).elim

theorem acc_nil_all {l : List GPart} {r : Nat → Bool} (hc : Closed l r) : ∀ (d i : Nat), i + d = l.length → r i = true → acc (l.drop i) [] = true → r l.length = true
  | 0, i, hd, hr, _ => by rw [show l.length = i by omega]; exact hr
  | d + 1, i, hd, hr, ha => by
    obtain ⟨p, hp⟩ : ∃ p, l[i]? = some p := ⟨_, List.getElem?_eq_getElem (by omega)⟩
    rw [drop_part hp] at ha
    unfold acc at ha
    cases hm : p.1 with
    | false => rw [hm] at ha; simp [oneOf] at ha
    | true =>
      rw [hm, if_pos rfl] at ha
      exact acc_nil_all hc d (i + 1) (by omega) (hc.2 i p hp hm hr) ha

theorem step_complete {l : List GPart} {r : Nat → Bool} (hc : Closed l r) (c : UInt8) (v : List UInt8) (hI : StepInv l r c l.length) : ∀ (d i : Nat), i + d = l.length → r i = true → acc (l.drop i) (c :: v) = true →
    ∃ j, (stepN l r c.toNat l.length).1 j = true ∧ acc (l.drop j) v = true
  | 0, i, hd, _, ha => by
    rw [List.drop_of_length_le (by omega)] at ha
    cases ha
  | d + 1, i, hd, hr, ha => by
    obtain ⟨p, hp⟩ : ∃ p, l[i]? = some p := ⟨_, List.getElem?_eq_getElem (by omega)⟩
    rw [drop_part hp] at ha
    unfold acc at ha
    cases hm : p.1 with
    | false =>
      rw [hm] at ha
      have ha : (p.2 c.toNat && acc (l.drop (i + 1)) v) = true := ha
      simp only [Bool.and_eq_true] at ha
      have := hI.hits i p (by omega) hp hr ha.1
      rw [hm] at this
      exact ⟨i + 1, this, ha.2⟩
    | true =>
      rw [hm, if_pos rfl] at ha
      have ha : (acc (l.drop (i + 1)) (c :: v) || (p.2 c.toNat && manyOf p.2 (acc (l.drop (i + 1))) v)) = true := ha
      simp only [Bool.or_eq_true, Bool.and_eq_true] at ha
      rcases ha with ha | ⟨hP, ha⟩
      · exact step_complete hc c v hI d (i + 1) (by omega) (hc.2 i p hp hm hr) ha
      · have := hI.hits i p (by omega) hp hr hP
        rw [hm] at this
        refine ⟨i, this, ?_⟩
        rw [drop_part hp]
        unfold acc
        rw [hm, if_pos rfl]
        exact ha

theorem matchR_iff (l : List GPart) : ∀ (u : List UInt8) (r : Nat → Bool), Closed l r → (matchR l r u = true ↔ ∃ i, r i = true ∧ acc (l.drop i) u = true)
  | [], r, hc => by
    constructor
    · intro h
      exact ⟨l.length, h, by rw [List.drop_of_length_le (Nat.le_refl _)]; rfl⟩
    · rintro ⟨i, hr, ha⟩
      have := hc.1 i hr
      exact acc_nil_all hc (l.length - i) i (by omega) hr ha
  | c :: v, r, hc => by
    have hI := stepInv l r c l.length (Nat.le_refl _)
    have hn : Closed l (stepN l r c.toNat l.length).1 := ⟨hI.le, fun i p hp hm h => hI.closed i p (List.getElem?_eq_some_iff.1 hp).1 hp hm h⟩
    have ih := matchR_iff l v _ hn
    rw [matchR]
    cases hs : (stepN l r c.toNat l.length).2 with
    | false =>
      rw [if_neg (by simp)]
      constructor
      · intro h; cases h
      · rintro ⟨i, hr, ha⟩
        have := hc.1 i hr
        obtain ⟨j, hj, _⟩ := step_complete hc c v hI (l.length - i) i (by omega) hr ha
        rw [hI.none_ hs j] at hj
        cases hj
    | true =>
      rw [if_pos rfl, ih]
      constructor
      · rintro ⟨j, hj, ha⟩
        exact hI.sound j v hj ha
      · rintro ⟨i, hr, ha⟩
        have := hc.1 i hr
        exact step_complete hc c v hI (l.length - i) i (by omega) hr ha

theorem lead_le : ∀ l : List GPart, lead l ≤ l.length
  | [] => Nat.le_refl _
  | p :: r => by have := lead_le r; unfold lead; split <;> simp <;> omega
theorem lead_many : ∀ (l : List GPart) (j : Nat) (p : GPart), j < lead l → l[j]? = some p → p.1 = true
  | [], j, p, h, _ => by simp [lead] at h
  | q :: r, 0, p, h, hp => by
    simp at hp
    subst hp
    unfold lead at h
    cases hq : q.1 with
    | true => rfl
    | false => rw [hq] at h; simp at h
  | q :: r, j + 1, p, h, hp => by
    unfold lead at h
    split at h
    · exact lead_many r j p (by omega) (by simpa using hp)
    · omega
theorem lead_stop : ∀ (l : List GPart) (p : GPart), l[lead l]? = some p → p.1 = false
  | [], p, h => by simp at h
  | q :: r, p, h => by
    cases hq : q.1 with
    | true =>
      unfold lead at h
      rw [hq, if_pos rfl] at h
      exact lead_stop r p (by simpa using h)
    | false =>
      unfold lead at h
      rw [hq] at h
      simp at h
      subst h
      exact hq

/-- Going over a text byte by byte tells whether it is one of the pattern's. -/
theorem matchP_acc (l : List GPart) (u : List UInt8) : matchP l u = acc l u := by
  have hc : Closed l (leR (lead l)) := by
    refine ⟨fun i h => ?_, fun i p hp hm h => ?_⟩
    · have := lead_le l
      unfold leR at h
      simp at h
      omega
    · unfold leR at h ⊢
      simp at h ⊢
      by_cases e : i = lead l
      · subst e
        rw [lead_stop l p hp] at hm
        cases hm
      · omega
  have hall : ∀ i, i ≤ lead l → acc (l.drop i) u = true → acc l u = true := by
    intro i
    induction i with
    | zero => intro _ h; exact h
    | succ i ih =>
      intro hi h
      obtain ⟨p, hp⟩ : ∃ p, l[i]? = some p := ⟨_, List.getElem?_eq_getElem (by have := lead_le l; omega)⟩
      exact ih (by omega) (acc_skip hp (lead_many l i p (by omega) hp) h)
  rw [Bool.eq_iff_iff]
  unfold matchP
  rw [matchR_iff l u _ hc]
  constructor
  · rintro ⟨i, hi, ha⟩
    unfold leR at hi
    simp at hi
    exact hall i hi ha
  · intro h
    exact ⟨0, by unfold leR; simp, h⟩

theorem globM_acc (p s : ByteArray) : globM p s = if 64 < p.size then false else match parseOf p.data.toList with
    | none => false
    | some l => acc l s.data.toList := by
  unfold globM
  split
  · rfl
  · cases parseOf p.data.toList with
    | none => rfl
    | some l => exact matchP_acc l _
end Go.Proofs.YthlalmehcpionaaDoor
