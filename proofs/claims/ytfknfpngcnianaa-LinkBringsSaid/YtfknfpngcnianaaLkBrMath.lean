/-
  What is on a way was sent on it, or is turned once from what was: plain.
-/
import Derived.Test.YtfknfpngcnianaaLkArgs
namespace Go.Proofs.Ytfknfpngcnianaa
open Go.RowKit
set_option maxRecDepth 100000

/-- A packet's bytes were sent, or are turned from what was. -/
def OkP (S : List (List UInt8)) (T : List LA) (p : Pk) : Prop := (p.t = false → p.b ∈ S) ∧ (p.t = true → ∃ x ∈ S, ∃ t ∈ T, turnL x t.at_ t.mask = p.b)
theorem OkP.mono {S S' : List (List UInt8)} {T T' : List LA} {p : Pk} (h : OkP S T p) (hs : ∀ x ∈ S, x ∈ S') (ht : ∀ x ∈ T, x ∈ T') : OkP S' T' p :=
  ⟨fun e => hs _ (h.1 e), fun e => by obtain ⟨x, hx, t, h2, h3⟩ := h.2 e; exact ⟨x, hs _ hx, t, ht _ h2, h3⟩⟩
def Brings (s : Nat → Way) (S : Nat → List (List UInt8)) (T : List LA) : Prop := ∀ k, ∀ p ∈ (s k).l, OkP (S k) T p
/-- What was sent behind a call. -/
def sentS (S : Nat → List (List UInt8)) (k : Nat) (b : List UInt8) : Nat → List (List UInt8) := fun j => if j = k then S j ++ [b] else S j
theorem sentS_same (S : Nat → List (List UInt8)) (k : Nat) (b : List UInt8) : sentS S k b k = S k ++ [b] := by unfold sentS; rw [if_pos rfl]
theorem sentS_other (S : Nat → List (List UInt8)) (k j : Nat) (b : List UInt8) (h : j ≠ k) : sentS S k b j = S j := by unfold sentS; rw [if_neg h]
/-- Is it found among what was sent, or turned from it? -/
def Found (S : List (List UInt8)) (T : List LA) (s : List UInt8) : Prop := ∃ x ∈ S, x = s ∨ ∃ t ∈ T, turnL x t.at_ t.mask = s
theorem OkP.found {S : List (List UInt8)} {T : List LA} {p : Pk} (h : OkP S T p) : Found S T p.b := by
  cases e : p.t
  · exact ⟨p.b, h.1 e, .inl rfl⟩
  · obtain ⟨x, hx, h2⟩ := h.2 e
    exact ⟨x, hx, .inr h2⟩
def putsOk (q : Way) (S : List (List UInt8)) (T : List LA) : Prop := ∀ p ∈ q.l, OkP S T p
theorem putsOk.put {q : Way} {S : List (List UInt8)} {T : List LA} {p : Pk} (h : putsOk q S T) (hp : OkP S T p) : putsOk (q.put p) S T := fun x hx => by
  rcases put_mem hx with h2 | h2
  · exact h x h2
  · rw [h2]; exact hp
theorem putsOk.took {q : Way} {S : List (List UInt8)} {T : List LA} (h : putsOk q S T) (i : Nat) : putsOk (q.took i) S T := fun x hx => h x (took_mem hx)
/-- One way, behind a call of another kind than Send. -/
theorem stepQ_ok (q : Way) (kd i at_ : Int) (mask : Nat) (b : List UInt8) (S : List (List UInt8)) (T T' : List LA) (h : putsOk q S T) (hT : ∀ t ∈ T, t ∈ T') (h0 : kd ≠ 0) (ht : kd < 0 ∨ 3 < kd → ∃ t ∈ T', t.at_ = at_ ∧ t.mask = mask) :
    putsOk (stepQ q kd i at_ mask b).1 S T' ∧ (kd = 1 → (stepQ q kd i at_ mask b).2.2 = true → Found S T (stepQ q kd i at_ mask b).2.1) := by
  have hm : putsOk q S T' := fun p hp => (h p hp).mono (fun _ h => h) hT
  by_cases ho2 : i < 0 ∨ (q.l.length : Int) ≤ i
  · rw [stepQ_out _ _ _ _ _ _ h0 ho2]
    exact ⟨hm, fun _ e => by cases e⟩
  · obtain ⟨j, rfl⟩ : ∃ j : Nat, i = j := ⟨i.toNat, by omega⟩
    have hj : j < q.l.length := by omega
    rw [stepQ_in q kd j at_ mask b q.l[j] h0 (List.getElem?_eq_getElem hj)]
    have hmm : q.l[j] ∈ q.l := List.getElem_mem hj
    by_cases c1 : kd = 1
    · rw [if_pos c1]; exact ⟨hm.took j, fun _ _ => (h _ hmm).found⟩
    · rw [if_neg c1]
      refine ⟨?_, fun e => absurd e c1⟩
      by_cases c2 : kd = 2
      · rw [if_pos c2]; exact hm.took j
      · rw [if_neg c2]
        by_cases c3 : kd = 3
        · rw [if_pos c3]; exact hm.put (hm _ hmm)
        · rw [if_neg c3]
          by_cases ct : q.l[j].t = true
          · rw [if_pos ct]; exact hm
          · rw [if_neg ct]
            intro p hp
            rcases List.mem_or_eq_of_mem_set hp with h2 | h2
            · exact hm p h2
            · rw [h2]
              refine ⟨fun e => (by cases e), fun _ => ?_⟩
              obtain ⟨t, h3, h4, h5⟩ := ht (by omega)
              exact ⟨_, (h _ hmm).1 (by simpa using ct), t, h3, by rw [h4, h5]⟩
/-- Both ways, behind a call. -/
theorem Brings.step {s : Nat → Way} {S : Nat → List (List UInt8)} {T : List LA} (h : Brings s S T) (a : LA) (T' : List LA) (hT' : T' = if a.kd < 0 ∨ 3 < a.kd then T ++ [a] else T) :
    (a.kd = 0 → (stepS s a.kd a.wy a.i a.at_ a.mask a.b).2.2 = true → ∃ k : Nat, k < 2 ∧ a.wy = k ∧ Brings (stepS s a.kd a.wy a.i a.at_ a.mask a.b).1 (sentS S k a.b) T') ∧
    (¬ (a.kd = 0 ∧ (stepS s a.kd a.wy a.i a.at_ a.mask a.b).2.2 = true) → Brings (stepS s a.kd a.wy a.i a.at_ a.mask a.b).1 S T') ∧
    (a.kd = 1 → (stepS s a.kd a.wy a.i a.at_ a.mask a.b).2.2 = true → ∃ k : Nat, k < 2 ∧ a.wy = k ∧ Found (S k) T (stepS s a.kd a.wy a.i a.at_ a.mask a.b).2.1) := by
  have hT : ∀ t ∈ T, t ∈ T' := by
    rw [hT']
    split
    · exact fun t ht => List.mem_append_left _ ht
    · exact fun t ht => ht
  have hm : ∀ k, putsOk (s k) (S k) T' := fun k p hp => (h k p hp).mono (fun _ h => h) hT
  by_cases hw : a.wy = 0 ∨ a.wy = 1
  · obtain ⟨k, hk, hk2⟩ : ∃ k : Nat, a.wy = k ∧ k < 2 := ⟨a.wy.toNat, by omega, by omega⟩
    rw [hk, stepS_way _ _ _ hk2]
    by_cases h0 : a.kd = 0
    · rw [h0, stepQ_send]
      refine ⟨fun _ _ => ⟨k, hk2, rfl, fun j p hp => ?_⟩, fun hn => absurd ⟨rfl, rfl⟩ hn, fun e => by cases e⟩
      by_cases e : j = k
      · subst e
        simp only [upd_same] at hp
        rw [sentS_same]
        have h2 : putsOk ({ s j with sent := (s j).sent + 1 } : Way) (S j ++ [a.b]) T' := fun p hp => (hm j p hp).mono (fun x hx => List.mem_append_left _ hx) (fun _ h => h)
        exact h2.put (p := ⟨a.b, false⟩) ⟨fun _ => (by simp), fun e => (by cases e)⟩ p hp
      · simp only [upd_other _ _ _ _ e] at hp
        rw [sentS_other _ _ _ _ e]
        exact hm j p hp
    · have hq := stepQ_ok (s k) a.kd a.i a.at_ a.mask a.b (S k) T T' (fun p hp => h k p hp) hT h0 (fun e => ⟨a, by rw [hT', if_pos e]; simp, rfl, rfl⟩)
      refine ⟨fun e => absurd e h0, fun _ j p hp => ?_, fun e1 e2 => ⟨k, hk2, rfl, hq.2 e1 e2⟩⟩
      by_cases e : j = k
      · subst e
        simp only [upd_same] at hp
        exact hq.1 p hp
      · simp only [upd_other _ _ _ _ e] at hp
        exact hm j p hp
  · rw [stepS_bad _ _ _ _ _ _ _ (by omega) (by omega)]
    exact ⟨fun _ e => (by cases e), fun _ => hm, fun _ e => (by cases e)⟩
theorem brings0 : Brings (fun _ => emptyQ) (fun _ => []) [] := fun _ _ hp => (List.not_mem_nil hp).elim
/-- The law's own search, by what it has looked through. -/
def foundB (S : List (List UInt8)) (T : List LA) (s : ByteArray) : Bool := S.any fun x => ((ofL x).toList == s.toList) || T.any fun t => (ofL (turnL x t.at_ t.mask)).toList == s.toList
theorem foundB_yes {S : List (List UInt8)} {T : List LA} {s : List UInt8} (h : Found S T s) : foundB S T (ofL s) = true := by
  obtain ⟨x, hx, h2⟩ := h
  unfold foundB
  rw [List.any_eq_true]
  refine ⟨x, hx, ?_⟩
  rcases h2 with rfl | ⟨t, ht, h3⟩
  · rw [Bool.or_eq_true]
    left
    exact beq_self_eq_true _
  · rw [Bool.or_eq_true]
    right
    rw [List.any_eq_true]
    exact ⟨t, ht, by rw [h3]; exact beq_self_eq_true _⟩
theorem foundB_step (S : List (List UInt8)) (T : List LA) (s : ByteArray) (k : Nat) (x : List UInt8) (h : S[k]? = some x) : foundB (S.take (k + 1)) T s = ((foundB (S.take k) T s || (ofL x).toList == s.toList) || T.any fun t => (ofL (turnL x t.at_ t.mask)).toList == s.toList) := by
  have hl := (List.getElem?_eq_some_iff.1 h).1
  have e : S.take (k + 1) = S.take k ++ [x] := by rw [List.take_add_one, h]; rfl
  unfold foundB
  rw [e, List.any_append]
  simp [Bool.or_assoc]
theorem any_step (T : List LA) (f : LA → Bool) (j : Nat) (t : LA) (h : T[j]? = some t) : (T.take (j + 1)).any f = ((T.take j).any f || f t) := by
  have e : T.take (j + 1) = T.take j ++ [t] := by rw [List.take_add_one, h]; rfl
  rw [e, List.any_append]
  simp
end Go.Proofs.Ytfknfpngcnianaa
