/-
  Tokens put together, in whatever parts.
-/
import Derived.Test.YtobgbheodlpclaaTkRefJoin
namespace Go.Proofs.Ytobgbheodlpclaa
open Go.RowKit
set_option maxRecDepth 100000

theorem size_app (a b : ByteArray) : (a ++ b).size = a.size + b.size := ByteArray.size_append
theorem nil_app (b : ByteArray) (h : b.size = 0) : (ByteArray.mk #[]) ++ b = ⟨#[]⟩ := by
  have : b = ⟨#[]⟩ := by
    obtain ⟨⟨l⟩⟩ := b
    have : l = [] := by simpa [ByteArray.size] using h
    rw [this]
  rw [this]; rfl
theorem stepO_nil (t : Tk) : stepO [] t = [t] := rfl
theorem stepO_snoc (o : List Tk) (a t : Tk) : stepO (o ++ [a]) t = match mergeT a t with
    | some c => o ++ [c]
    | none => o ++ [a] ++ [t] := by
  unfold stepO
  rw [List.getLast?_concat]
  simp only
  cases mergeT a t with
  | none => rfl
  | some c =>
    simp only
    rw [List.length_append, List.length_singleton, Nat.add_sub_cancel, List.set_append_right _ _ (Nat.le_refl _), Nat.sub_self]; rfl
/-- A token with one more behind it. -/
def accT (c t : Tk) : Tk := ⟨c.from_, c.many + t.many, c.data ++ t.data⟩
/-- What stands for tokens the last of which is a. -/
structure Acc (c a : Tk) (b : Nat) : Prop where
  right : rightT a = true
  lit : a.many = 0 → c.many = 0 ∧ c.from_ = 0 ∧ c.data.size = b + a.data.size
  blk : a.many ≠ 0 → 0 < c.many ∧ c.from_ + c.many = a.from_ + a.many ∧ c.data = ⟨#[]⟩
theorem Acc.first {a : Tk} (h : rightT a = true) : Acc a a 0 := by
  refine ⟨h, fun h0 => ?_, fun h0 => ?_⟩
  · rcases right_cases h with ⟨h1, h2, _⟩ | ⟨h1, _⟩
    · exact ⟨h0, h2, by omega⟩
    · omega
  · rcases right_cases h with ⟨h1, h2, _⟩ | ⟨h1, _, _, h4⟩
    · omega
    · exact ⟨h1, rfl, by obtain ⟨f, m, ⟨⟨l⟩⟩⟩ := a; have : l = [] := by simpa [ByteArray.size] using h4
                         simp [this]⟩
theorem Acc.step {c a t : Tk} {b : Nat} (h : Acc c a b) (ht : rightT t = true) :
    (joinsB a t (b + a.data.size) = true → mergeT c t = some (accT c t) ∧ Acc (accT c t) t (b + a.data.size)) ∧ (joinsB a t (b + a.data.size) = false → mergeT c t = none) := by
  have hr := right_cases ht
  have ha := right_cases h.right
  by_cases h0 : a.many = 0
  · obtain ⟨c1, c2, c3⟩ := h.lit h0
    have hj : joinsB a t (b + a.data.size) = ((a.many == t.many) && decide (b + a.data.size + t.data.size ≤ 16384)) := by unfold joinsB; rw [if_pos (.inl h0)]
    have hm : mergeT c t = if t.many = 0 ∧ c.data.size + t.data.size ≤ 16384 then some ⟨0, 0, c.data ++ t.data⟩ else none := by unfold mergeT; rw [if_pos c1]
    rw [hj, hm, h0]
    constructor
    · intro hq
      simp only [Bool.and_eq_true, beq_iff_eq, decide_eq_true_eq] at hq
      rw [if_pos ⟨hq.1.symm, by omega⟩]
      have e : accT c t = ⟨0, 0, c.data ++ t.data⟩ := by unfold accT; rw [c1, c2, ← hq.1]; rfl
      rw [e]
      refine ⟨rfl, ht, fun _ => ⟨rfl, rfl, ?_⟩, fun hn => absurd hq.1.symm hn⟩
      show (c.data ++ t.data).size = _
      rw [size_app, c3]
    · intro hq
      rw [if_neg]
      intro hh
      rw [hh.1] at hq
      simp only [beq_self_eq_true, Bool.true_and, decide_eq_false_iff_not] at hq
      omega
  · obtain ⟨c1, c2, c3⟩ := h.blk h0
    have hm : mergeT c t = if t.many ≠ 0 ∧ c.from_ + c.many = t.from_ then some ⟨c.from_, c.many + t.many, ⟨#[]⟩⟩ else none := by unfold mergeT; rw [if_neg (by omega)]
    rw [hm]
    by_cases h1 : t.many = 0
    · have hj : joinsB a t (b + a.data.size) = false := by unfold joinsB; rw [if_pos (.inr h1), h1]; simp [h0]
      rw [hj]
      exact ⟨fun h => (by cases h), fun _ => if_neg (fun hh => hh.1 h1)⟩
    · have hj : joinsB a t (b + a.data.size) = (a.from_ + a.many == t.from_) := by unfold joinsB; rw [if_neg (by simp [h0, h1])]
      rw [hj]
      have hts : t.data.size = 0 := by rcases hr with h2 | h2 <;> omega
      constructor
      · intro hq
        have hq' : a.from_ + a.many = t.from_ := by simpa using hq
        rw [if_pos ⟨h1, by omega⟩]
        have e : accT c t = ⟨c.from_, c.many + t.many, ⟨#[]⟩⟩ := by unfold accT; rw [c3, nil_app _ hts]
        rw [e]
        refine ⟨rfl, ht, fun hn => absurd hn h1, fun _ => ⟨?_, ?_, rfl⟩⟩
        · show 0 < c.many + t.many; rcases hr with h2 | h2 <;> omega
        · show c.from_ + (c.many + t.many) = _; omega
      · intro hq
        have hq' : ¬ a.from_ + a.many = t.from_ := by simpa using hq
        exact if_neg (fun hh => hq' (by omega))
theorem tog_fold : ∀ (rest : List Tk) (a : Tk) (b n : Nat) (c : Tk) (o : List Tk), Acc c a b → (∀ t ∈ rest, rightT t = true) →
    ∃ k, togF a b n rest = n + k ∧ rest.foldl stepO (o ++ [c]) = (rest.drop k).foldl stepO (o ++ [(rest.take k).foldl accT c]) ∧ (∀ t, (rest.drop k).head? = some t → mergeT ((rest.take k).foldl accT c) t = none)
  | [], a, b, n, c, o, _, _ => ⟨0, rfl, rfl, fun t h => by simp at h⟩
  | t :: r, a, b, n, c, o, h, hr => by
    have ht := hr t List.mem_cons_self
    obtain ⟨s1, s2⟩ := h.step ht
    cases hj : joinsB a t (b + a.data.size) with
    | true =>
      obtain ⟨m1, m2⟩ := s1 hj
      obtain ⟨k, k1, k2, k3⟩ := tog_fold r t (b + a.data.size) (n + 1) (accT c t) o m2 (fun x hx => hr x (List.mem_cons_of_mem _ hx))
      refine ⟨k + 1, ?_, ?_, ?_⟩
      · unfold togF; rw [if_pos hj, k1]; omega
      · rw [List.foldl_cons, stepO_snoc, m1]
        exact k2
      · exact k3
    | false =>
      have m1 := s2 hj
      refine ⟨0, ?_, rfl, ?_⟩
      · unfold togF; rw [if_neg (by rw [hj]; decide)]; rfl
      · intro x hx
        simp at hx
        subst hx
        exact m1
theorem acc_all : ∀ (q : List Tk) (c : Tk), q.foldl accT c = ⟨c.from_, c.many + manyL q, ofL (toL c.data ++ dataL q)⟩
  | [], c => by
    have : ofL (toL c.data) = c.data := toL_inj rfl
    simp [manyL, dataL, this]
  | t :: q, c => by
    rw [List.foldl_cons, acc_all q (accT c t)]
    have e1 : toL (c.data ++ t.data) = toL c.data ++ toL t.data := by simp [toL]
    have e2 : manyL (t :: q) = t.many + manyL q := rfl
    have e3 : dataL (t :: q) = toL t.data ++ dataL q := by unfold dataL; rw [List.flatMap_cons]
    rw [e2, e3]
    show (⟨c.from_, c.many + t.many + manyL q, ofL (toL (c.data ++ t.data) ++ dataL q)⟩ : Tk) = _
    rw [e1, Int.add_assoc, List.append_assoc]
theorem one_acc (a : Tk) (q : List Tk) : oneL (a :: q) = q.foldl accT a := by
  rw [acc_all]
  have e3 : dataL (a :: q) = toL a.data ++ dataL q := by unfold dataL; rw [List.flatMap_cons]
  show (⟨a.from_, a.many + manyL q, ofL (dataL (a :: q))⟩ : Tk) = _
  rw [e3]
theorem joinF_fold : ∀ (f : Nat) (o r : List Tk), r.length ≤ f → (∀ t ∈ r, rightT t = true) → (∀ a t, o.getLast? = some a → r.head? = some t → mergeT a t = none) → joinF f o r = r.foldl stepO o
  | 0, o, r, hf, _, _ => by
    have : r = [] := List.eq_nil_of_length_eq_zero (by omega)
    rw [this]; rfl
  | f + 1, o, r, hf, hr, hm => by
    cases r with
    | nil => rfl
    | cons a r =>
      unfold joinF
      rw [if_neg (by simp)]
      obtain ⟨k, k1, k2, k3⟩ := tog_fold r a 0 1 a o (Acc.first (hr a List.mem_cons_self)) (fun x hx => hr x (List.mem_cons_of_mem _ hx))
      have ht : togL (a :: r) = k + 1 := by show togF a 0 1 r = _; rw [k1]; omega
      rw [ht]
      show joinF f (o ++ [oneL (a :: r.take k)]) (r.drop k) = _
      rw [one_acc]
      have h0 : stepO o a = o ++ [a] := by
        unfold stepO
        cases hl : o.getLast? with
        | none => rfl
        | some x => simp only; rw [hm x a hl rfl]
      rw [joinF_fold f _ _ (by rw [List.length_drop]; simp at hf; omega) (fun x hx => hr x (List.mem_cons_of_mem _ (List.mem_of_mem_drop hx))) (fun x t hx ht => by
        rw [List.getLast?_concat] at hx
        injection hx with hx
        subst hx
        exact k3 t ht)]
      rw [List.foldl_cons, h0]
      exact k2.symm
theorem joinP_eq (l : List Tk) : joinP l = joinR l := by
  unfold joinP joinR
  exact joinF_fold _ _ _ (Nat.le_refl _) (fun t ht => (List.mem_filter.1 ht).2) (fun a t ha _ => by simp at ha)

theorem fold_right : ∀ (q o : List Tk), (∀ x ∈ o, rightT x = true) → (∀ x ∈ q, rightT x = true) → ∀ x ∈ q.foldl stepO o, rightT x = true
  | [], _, ho, _ => ho
  | t :: q, _, ho, hq => fold_right q _ (stepO_right ho (hq t List.mem_cons_self)) (fun x hx => hq x (List.mem_cons_of_mem _ hx))
theorem merge_size {a t c : Tk} (ha : rightT a = true) (ht : rightT t = true) (h : mergeT a t = some c) : c.data.size = a.data.size + t.data.size := by
  have h1 := right_cases ha
  have h2 := right_cases ht
  unfold mergeT at h
  split at h
  · split at h
    · injection h with h; subst h; exact size_app _ _
    · cases h
  · split at h
    · rename_i h3
      injection h with h
      subst h
      show (0 : Nat) = _
      rcases h1 with h1 | h1 <;> rcases h2 with h2 | h2 <;> omega
    · cases h
theorem snoc_cases (o : List Tk) : o = [] ∨ ∃ p x, o = p ++ [x] := by
  rcases List.eq_nil_or_concat o with h | ⟨p, x, h⟩
  · exact .inl h
  · exact .inr ⟨p, x, by rw [h]; simp⟩
theorem step_size {o : List Tk} {t : Tk} (ho : ∀ x ∈ o, rightT x = true) (ht : rightT t = true) : sizeL (stepO o t) = sizeL o + t.data.size := by
  rcases snoc_cases o with rfl | ⟨p, a, rfl⟩
  · simp [stepO_nil, sizeL]
  · rw [stepO_snoc]
    cases hm : mergeT a t with
    | none => simp only [sizeL_app, sizeL]; omega
    | some c =>
      simp only [sizeL_app, sizeL]
      rw [merge_size (ho a (by simp)) ht hm]; omega
theorem fold_size : ∀ (q o : List Tk), (∀ x ∈ o, rightT x = true) → (∀ x ∈ q, rightT x = true) → sizeL (q.foldl stepO o) = sizeL o + sizeL q
  | [], o, _, _ => by simp [sizeL]
  | t :: q, o, ho, hq => by
    have ht := hq t List.mem_cons_self
    rw [List.foldl_cons, fold_size q _ (stepO_right ho ht) (fun x hx => hq x (List.mem_cons_of_mem _ hx)), step_size ho ht]
    simp only [sizeL]; omega
/-- Three tokens: it is one whether the last two are put together first. -/
theorem merge_three {x a t c : Tk} (hx : rightT x = true) (ha : rightT a = true) (ht : rightT t = true) (hs : x.data.size + a.data.size + t.data.size ≤ 16384) (h : mergeT a t = some c) :
    (mergeT x a = none → mergeT x c = none) ∧ (∀ y, mergeT x a = some y → mergeT y t = mergeT x c ∧ (mergeT x c).isSome = true) := by
  have h1 := right_cases hx
  have h2 := right_cases ha
  have h3 := right_cases ht
  obtain ⟨fx, mx, dx⟩ := x
  obtain ⟨fa, ma, da⟩ := a
  obtain ⟨ft, mt, dt⟩ := t
  simp only at h1 h2 h3 hs
  by_cases a0 : ma = 0
  · have ha' : mergeT ⟨fa, ma, da⟩ ⟨ft, mt, dt⟩ = if mt = 0 ∧ da.size + dt.size ≤ 16384 then some ⟨0, 0, da ++ dt⟩ else none := by unfold mergeT; rw [if_pos a0]
    rw [ha'] at h
    split at h
    · rename_i hc
      injection h with h
      subst h
      by_cases x0 : mx = 0
      · have e1 : mergeT ⟨fx, mx, dx⟩ ⟨fa, ma, da⟩ = some ⟨0, 0, dx ++ da⟩ := by unfold mergeT; rw [if_pos x0, if_pos ⟨a0, by show dx.size + da.size ≤ 16384; omega⟩]
        have e2 : mergeT ⟨fx, mx, dx⟩ ⟨0, 0, da ++ dt⟩ = some ⟨0, 0, dx ++ (da ++ dt)⟩ := by unfold mergeT; rw [if_pos x0, if_pos ⟨rfl, by show dx.size + (da ++ dt).size ≤ 16384; rw [size_app]; omega⟩]
        have e3 : mergeT ⟨0, 0, dx ++ da⟩ ⟨ft, mt, dt⟩ = some ⟨0, 0, (dx ++ da) ++ dt⟩ := by unfold mergeT; rw [if_pos rfl, if_pos ⟨hc.1, by show (dx ++ da).size + dt.size ≤ 16384; rw [size_app]; omega⟩]
        rw [e1, e2]
        refine ⟨fun h => (by cases h), fun y hy => ?_⟩
        injection hy with hy
        subst hy
        rw [e3]
        exact ⟨by rw [ByteArray.append_assoc], rfl⟩
      · have e1 : mergeT ⟨fx, mx, dx⟩ ⟨fa, ma, da⟩ = none := by unfold mergeT; rw [if_neg x0, if_neg (fun h => h.1 a0)]
        have e2 : mergeT ⟨fx, mx, dx⟩ ⟨0, 0, da ++ dt⟩ = none := by unfold mergeT; rw [if_neg x0, if_neg (fun h => h.1 rfl)]
        rw [e1, e2]
        exact ⟨fun _ => rfl, fun y hy => by cases hy⟩
    · cases h
  · have ha' : mergeT ⟨fa, ma, da⟩ ⟨ft, mt, dt⟩ = if mt ≠ 0 ∧ fa + ma = ft then some ⟨fa, ma + mt, ⟨#[]⟩⟩ else none := by unfold mergeT; rw [if_neg a0]
    rw [ha'] at h
    split at h
    · rename_i hc
      injection h with h
      subst h
      have hmm : ma + mt ≠ 0 := by omega
      by_cases x0 : mx = 0
      · have e1 : mergeT ⟨fx, mx, dx⟩ ⟨fa, ma, da⟩ = none := by unfold mergeT; rw [if_pos x0, if_neg (fun h => a0 h.1)]
        have e2 : mergeT ⟨fx, mx, dx⟩ ⟨fa, ma + mt, ⟨#[]⟩⟩ = none := by unfold mergeT; rw [if_pos x0, if_neg (fun h => hmm h.1)]
        rw [e1, e2]
        exact ⟨fun _ => rfl, fun y hy => by cases hy⟩
      · by_cases hq : fx + mx = fa
        · have e1 : mergeT ⟨fx, mx, dx⟩ ⟨fa, ma, da⟩ = some ⟨fx, mx + ma, ⟨#[]⟩⟩ := by unfold mergeT; rw [if_neg x0, if_pos ⟨a0, hq⟩]
          have e2 : mergeT ⟨fx, mx, dx⟩ ⟨fa, ma + mt, ⟨#[]⟩⟩ = some ⟨fx, mx + (ma + mt), ⟨#[]⟩⟩ := by unfold mergeT; rw [if_neg x0, if_pos ⟨hmm, hq⟩]
          have e3 : mergeT ⟨fx, mx + ma, ⟨#[]⟩⟩ ⟨ft, mt, dt⟩ = some ⟨fx, mx + ma + mt, ⟨#[]⟩⟩ := by unfold mergeT; rw [if_neg (by show ¬ mx + ma = 0; omega), if_pos ⟨hc.1, by show fx + (mx + ma) = ft; omega⟩]
          rw [e1, e2]
          refine ⟨fun h => (by cases h), fun y hy => ?_⟩
          injection hy with hy
          subst hy
          rw [e3]
          exact ⟨by rw [Int.add_assoc], rfl⟩
        · have e1 : mergeT ⟨fx, mx, dx⟩ ⟨fa, ma, da⟩ = none := by unfold mergeT; rw [if_neg x0, if_neg (fun h => hq h.2)]
          have e2 : mergeT ⟨fx, mx, dx⟩ ⟨fa, ma + mt, ⟨#[]⟩⟩ = none := by unfold mergeT; rw [if_neg x0, if_neg (fun h => hq h.2)]
          rw [e1, e2]
          exact ⟨fun _ => rfl, fun y hy => by cases hy⟩
    · cases h
theorem step_merged {P : List Tk} {a t c : Tk} (hP : ∀ x ∈ P, rightT x = true) (ha : rightT a = true) (ht : rightT t = true) (hs : sizeL P + a.data.size + t.data.size ≤ 16384) (h : mergeT a t = some c) : stepO P c = stepO (stepO P a) t := by
  rcases snoc_cases P with rfl | ⟨p, x, rfl⟩
  · rw [stepO_nil, stepO_nil, show [a] = ([] : List Tk) ++ [a] from rfl, stepO_snoc, h]; rfl
  · have hx := hP x (by simp)
    have hsx : x.data.size + a.data.size + t.data.size ≤ 16384 := by
      have : sizeL (p ++ [x]) = sizeL p + x.data.size := by rw [sizeL_app]; simp [sizeL]
      omega
    obtain ⟨m1, m2⟩ := merge_three hx ha ht hsx h
    rw [stepO_snoc, stepO_snoc]
    cases hm : mergeT x a with
    | none =>
      rw [m1 hm]
      simp only
      rw [stepO_snoc, h]
    | some y =>
      obtain ⟨n1, n2⟩ := m2 y hm
      simp only
      rw [stepO_snoc, n1]
      cases hc : mergeT x c with
      | none => rw [hc] at n2; cases n2
      | some z => rfl
theorem stepO_ne (o : List Tk) (t : Tk) : stepO o t ≠ [] := by
  rcases snoc_cases o with rfl | ⟨p, x, rfl⟩
  · simp [stepO_nil]
  · rw [stepO_snoc]
    cases mergeT x t <;> simp
/-- What was put together first comes to the same. -/
theorem fold_join (o : List Tk) (ho : ∀ x ∈ o, rightT x = true) : ∀ (n : Nat) (q : List Tk), q.length = n → (∀ x ∈ q, rightT x = true) → sizeL o + sizeL q ≤ 16384 → (q.foldl stepO []).foldl stepO o = q.foldl stepO o
  | 0, q, hn, _, _ => by
    have : q = [] := List.eq_nil_of_length_eq_zero hn
    rw [this]; rfl
  | n + 1, q, hn, hq, hs => by
    rcases snoc_cases q with rfl | ⟨r, t, rfl⟩
    · rfl
    · have hr : ∀ x ∈ r, rightT x = true := fun x hx => hq x (List.mem_append_left _ hx)
      have ht := hq t (by simp)
      have hsz : sizeL (r ++ [t]) = sizeL r + t.data.size := by rw [sizeL_app]; simp [sizeL]
      have ih := fold_join o ho n r (by simpa using hn) hr (by omega)
      rw [List.foldl_append, List.foldl_append, List.foldl_cons, List.foldl_nil, List.foldl_cons, List.foldl_nil]
      have hJr := fold_right r [] (by simp) hr
      have hJs := fold_size r [] (by simp) hr
      generalize r.foldl stepO [] = J at ih hJr hJs ⊢
      rcases snoc_cases J with rfl | ⟨p, a, rfl⟩
      · rw [stepO_nil]
        show stepO o t = stepO (r.foldl stepO o) t
        rw [← ih]; rfl
      · rw [stepO_snoc]
        have ha := hJr a (by simp)
        have hp : ∀ x ∈ p, rightT x = true := fun x hx => hJr x (List.mem_append_left _ hx)
        rw [List.foldl_append] at ih
        have ih' : stepO (p.foldl stepO o) a = r.foldl stepO o := ih
        cases hm : mergeT a t with
        | none =>
          simp only
          rw [List.foldl_append, List.foldl_append]
          show stepO (stepO (p.foldl stepO o) a) t = _
          rw [ih']
        | some c =>
          simp only
          rw [List.foldl_append]
          show stepO (p.foldl stepO o) c = _
          rw [← ih']
          refine step_merged (fold_right p o ho hp) ha ht ?_ hm
          rw [fold_size p o ho hp]
          have e : sizeL (p ++ [a]) = sizeL p + a.data.size := by rw [sizeL_app]; simp [sizeL]
          have e0 : sizeL ([] : List Tk) = 0 := rfl
          omega
theorem right_self {q : List Tk} (h : ∀ x ∈ q, rightT x = true) : rightL q = q := List.filter_eq_self.2 h
theorem joinR_right (l : List Tk) : ∀ x ∈ joinR l, rightT x = true := fold_right _ _ (by simp) (fun t ht => (List.mem_filter.1 ht).2)
theorem joinR_twice (l : List Tk) (h : sizeL l ≤ 16384) : joinR (joinR l) = joinR l := by
  show (rightL (joinR l)).foldl stepO [] = _
  rw [right_self (joinR_right l)]
  exact fold_join [] (by simp) _ _ rfl (fun t ht => (List.mem_filter.1 ht).2) (by have := sizeL_filter rightT l; simp only [sizeL, rightL]; omega)
theorem joinR_parts (a b : List Tk) (h : sizeL (a ++ b) ≤ 16384) : joinR (joinR a ++ joinR b) = joinR (a ++ b) := by
  have ha : ∀ x ∈ rightL a, rightT x = true := fun t ht => (List.mem_filter.1 ht).2
  have hb : ∀ x ∈ rightL b, rightT x = true := fun t ht => (List.mem_filter.1 ht).2
  have s1 := sizeL_filter rightT a
  have s2 := sizeL_filter rightT b
  rw [sizeL_app] at h
  show (rightL (joinR a ++ joinR b)).foldl stepO [] = (rightL (a ++ b)).foldl stepO []
  rw [right_self (fun x hx => (List.mem_append.1 hx).elim (joinR_right a x) (joinR_right b x)), List.foldl_append]
  have e : rightL (a ++ b) = rightL a ++ rightL b := List.filter_append ..
  rw [e, List.foldl_append]
  have e1 : (joinR a).foldl stepO [] = (rightL a).foldl stepO [] := fold_join [] (by simp) _ _ rfl ha (by simp only [sizeL, rightL]; omega)
  rw [e1]
  exact fold_join _ (fold_right _ _ (by simp) ha) _ _ rfl hb (by rw [fold_size _ _ (by simp) ha]; simp only [sizeL, rightL]; omega)
theorem joinR_bytes (l : List Tk) : bytesL (joinR l) = bytesL l := by
  unfold bytesL
  rw [right_self (joinR_right l)]
  show sizeL ((rightL l).foldl stepO []) = _
  rw [fold_size (rightL l) [] (by simp) (fun t ht => (List.mem_filter.1 ht).2)]
  simp [sizeL]
theorem joinR_len (l : List Tk) : (joinR l).length ≤ l.length := by
  have h : ∀ (q o : List Tk), (q.foldl stepO o).length ≤ o.length + q.length := by
    intro q
    induction q with
    | nil => intro o; simp
    | cons t q ih => intro o; have h1 := ih (stepO o t); have h2 := stepO_len o t; simp only [List.foldl_cons, List.length_cons] at h1 ⊢; omega
  have h1 := h (rightL l) []
  have h2 : (rightL l).length ≤ l.length := List.length_filter_le _ _
  show ((rightL l).foldl stepO []).length ≤ _
  simp at h1; omega
theorem joinR_size (l : List Tk) : sizeL (joinR l) ≤ sizeL l := by
  show sizeL ((rightL l).foldl stepO []) ≤ _
  rw [fold_size (rightL l) [] (by simp) (fun t ht => (List.mem_filter.1 ht).2)]
  have := sizeL_filter rightT l
  simp only [sizeL, rightL] at this ⊢; omega
end Go.Proofs.Ytobgbheodlpclaa
