/-
  Texts that belong together: MiTold, MiLeft, MiPlainMath.
-/
import Derived.Test.YteoafohebgfjdaaGreatDoorAutoMiWell
import Derived.Test.YteoafohebgfjdaaGreatDoorAutoMiMarks
import Derived.Test.YteoafohebgfjdaaGreatDoorMiLay
/-
  What the mirror tells: plain.
-/
namespace Go.Proofs.YteoafohebgfjdaaGreatDoor
open Go.RowKit
set_option maxRecDepth 100000

/-- All names of some nodes, and all paths down to them. -/
def bdOf (l : List Nd) : Bd := ⟨l.flatMap fun n => (cutB n.path).map ofL, [] :: l.flatMap fun n => (List.range 17).map fun k => (nmN n).take k⟩
theorem mem_end {x : List UInt8} : ∀ {l : List (List UInt8)}, x ∈ l → x.length + 1 ≤ endL l
  | y :: l, h => by
    have e : endL (y :: l) = y.length + 1 + endL l := by simp [endL]
    rw [e]
    rcases List.mem_cons.1 h with rfl | h
    · omega
    · have := mem_end h
      omega
theorem cut_size {p : ByteArray} {x : List UInt8} (h : x ∈ cutB p) : x.length ≤ p.size := by
  have e : (toL p).length = p.size := by simp [toL]
  unfold cutB cutL at h
  split at h
  · cases h
  · have := mem_end h
    rw [endL_split] at this
    omega
theorem flat_len {α β : Type} (g : α → List β) (c : Nat) : ∀ l : List α, (∀ x ∈ l, (g x).length ≤ c) → (l.flatMap g).length ≤ l.length * c
  | [], _ => by simp
  | x :: l, h => by
    have h1 := h x List.mem_cons_self
    have h2 := flat_len g c l fun y hy => h y (List.mem_cons_of_mem _ hy)
    rw [List.flatMap_cons, List.length_append, List.length_cons, Nat.add_mul]
    omega
theorem bd_names {l : List Nd} (hr : ∀ n ∈ l, rightB n.path) : (bdOf l).names.length ≤ l.length * 16 :=
  flat_len _ 16 l fun n hn => by rw [List.length_map]; exact (right_names' (hr n hn)).2
theorem bd_paths (l : List Nd) : (bdOf l).paths.length ≤ l.length * 17 + 1 := by
  have := flat_len (fun n : Nd => (List.range 17).map fun k => (nmN n).take k) 17 l fun n _ => by simp
  show (_ :: _).length ≤ _
  rw [List.length_cons]
  omega
theorem bd_root (l : List Nd) : [] ∈ (bdOf l).paths := List.mem_cons_self
theorem bd_deep {l : List Nd} (hr : ∀ n ∈ l, rightB n.path) : ∀ P ∈ (bdOf l).paths, P.length ≤ 16 := fun P hP => by
  rcases List.mem_cons.1 hP with rfl | hP
  · simp
  · obtain ⟨n, hn, hP⟩ := List.mem_flatMap.1 hP
    obtain ⟨k, _, rfl⟩ := List.mem_map.1 hP
    have := (right_names' (hr n hn)).2
    rw [nm_cut (hr n hn), List.length_take]
    omega
theorem bd_ok {l : List Nd} (hr : ∀ n ∈ l, rightB n.path) (hf : ∀ n ∈ l, n.path.size ≤ 200) {n : Nd} (hn : n ∈ l) : NdOk (bdOf l) n := by
  refine ⟨by have := hf n hn; omega, fun x hx => ?_, fun k => List.mem_cons_of_mem _ (List.mem_flatMap.2 ⟨n, hn, List.mem_map.2 ⟨min k 16, by simp; omega, ?_⟩⟩)⟩
  · rw [nm_cut (hr n hn)] at hx
    have h1 := cut_size hx
    have h2 := hf n hn
    have h3 : (toL x).length = x.size := by simp [toL]
    refine ⟨List.mem_flatMap.2 ⟨n, hn, List.mem_map.2 ⟨toL x, hx, toL_inj (by rw [toL_ofL])⟩⟩, ?_⟩
    unfold maxLen
    omega
  · have := (right_names' (hr n hn)).2
    rw [nm_cut (hr n hn)]
    by_cases hk : k ≤ 16
    · rw [Nat.min_eq_left hk]
    · rw [Nat.min_eq_right (by omega), List.take_of_length_le (by omega), List.take_of_length_le (by omega)]
/-- What stands at a place is nothing, or one of those that were laid. -/
theorem LaidAt.s_cases {S D G : List Nd} {del : Bool} {V : Ns → Pl} (h : LaidAt S D G del V) (P : Ns) : (V P).s = zeroNd ∨ ((V P).s ∈ S ∧ nmN (V P).s = P) := by
  by_cases k : ∀ n ∈ S, nmN n ≠ P
  · exact .inl (h.sOut P k)
  · obtain ⟨n, hn, rfl⟩ : ∃ n ∈ S, nmN n = P := by simpa using k
    right
    rw [h.sIn n hn]
    exact ⟨hn, rfl⟩
theorem LaidAt.d_cases {S D G : List Nd} {del : Bool} {V : Ns → Pl} (h : LaidAt S D G del V) (P : Ns) : (V P).d = zeroNd ∨ ((V P).d ∈ D ∧ nmN (V P).d = P) := by
  by_cases k : ∀ n ∈ D, nmN n ≠ P
  · exact .inl (h.dOut P k)
  · obtain ⟨n, hn, rfl⟩ : ∃ n ∈ D, nmN n = P := by simpa using k
    right
    rw [h.dIn n hn]
    exact ⟨hn, rfl⟩
theorem FewV.laid {S D G : List Nd} {del : Bool} {V : Ns → Pl} (LL : Bd) (h : LaidAt S D G del V) (hS : TW S) (hD : TW D) : FewV LL V := fun P _ => by
  constructor
  · rcases h.s_cases P with e | ⟨e, _⟩
    · rw [e]; exact ⟨by decide, by decide⟩
    · have := hS.few _ e; omega
  · rcases h.d_cases P with e | ⟨e, _⟩
    · rw [e]; exact ⟨by decide, by decide⟩
    · have := hD.few _ e; omega
theorem rr_last (V : Ns → Pl) (x : List UInt8) : ∀ (Q : Ns) (th : Bool) (P : Ns), rr V th P (Q ++ [x]) = (rr V th P Q).bind fun t => nxt t (V (P ++ Q ++ [x]))
  | [], th, P => by
    show rr V th P [x] = nxt th (V (P ++ [] ++ [x]))
    rw [List.append_nil]
    cases e : nxt th (V (P ++ [x])) with
    | none => exact rr_none e
    | some t => exact rr_some e
  | y :: Q, th, P => by
    cases e : nxt th (V (P ++ [y])) with
    | none => rw [List.cons_append, rr_none e, rr_none e]; rfl
    | some t =>
      rw [List.cons_append, rr_some e, rr_some e, rr_last V x Q t (P ++ [y]), List.append_assoc P [y] Q]
      rfl
theorem Told.iff {V : Ns → Pl} {l : List Fd} (h : Told V l) (f : Fd) : f ∈ l ↔ ∃ P t, P ≠ [] ∧ rr V false [] P = some t ∧ f = emit V (P, t) := by
  obtain ⟨K, hK, hp⟩ := h.mem
  rw [hp.mem_iff, List.mem_map]
  constructor
  · rintro ⟨k, hk, rfl⟩
    obtain ⟨x, Q, _, h1, h2⟩ := (hK.mem k).1 hk
    exact ⟨k.1, k.2, by rw [h1]; simp, by rw [h1]; exact h2, rfl⟩
  · rintro ⟨P, t, h1, h2, rfl⟩
    cases P with
    | nil => exact absurd rfl h1
    | cons x Q => exact ⟨(x :: Q, t), (hK.mem _).2 ⟨x, Q, trivial, rfl, h2⟩, rfl⟩
/-- Who is told of stands there. -/
theorem nxt_ours {t : Bool} {v : Pl} (h : nxt t v = some false) : t = false ∧ oursV v = true := by
  unfold nxt at h
  split at h
  · rename_i e
    rw [Bool.and_eq_true, Bool.not_eq_true'] at e
    exact e
  · split at h
    · cases h
    · cases h
theorem nxt_theirs {t : Bool} {v : Pl} (h : nxt t v = some true) : (t = true ∨ oursV v = false) ∧ v.left = true := by
  unfold nxt at h
  split at h
  · cases h
  · rename_i e
    split at h
    · rename_i e2
      refine ⟨?_, e2⟩
      cases t
      · right; simpa using e
      · exact .inl rfl
    · cases h
theorem rr_end {V : Ns → Pl} {P : Ns} {t : Bool} (hP : P ≠ []) (h : rr V false [] P = some t) : if t = true then (V P).left = true else oursV (V P) = true := by
  obtain ⟨Q, x, rfl⟩ : ∃ Q x, P = Q ++ [x] := ⟨P.dropLast, P.getLast hP, (List.dropLast_concat_getLast hP).symm⟩
  rw [rr_last] at h
  cases e : rr V false [] Q with
  | none => rw [e] at h; cases h
  | some t0 =>
    rw [e] at h
    change nxt t0 (V ([] ++ Q ++ [x])) = some t at h
    rw [List.nil_append] at h
    cases t
    · exact (nxt_ours h).2
    · exact (nxt_theirs h).2
end Go.Proofs.YteoafohebgfjdaaGreatDoor
/-
  Where something is left, and the nodes that the mirror tells: plain.
-/
namespace Go.Proofs.YteoafohebgfjdaaGreatDoor
open Go.RowKit
set_option maxRecDepth 100000

theorem guards_iff {g : Nd} (hr : rightB g.path) {P : Ns} : guards g P ↔ P <+: nmN g := by
  constructor
  · rintro (rfl | ⟨u, hu, rfl⟩)
    · exact List.prefix_refl _
    · obtain ⟨i, hi⟩ := names_up (toL g.path) hu
      rw [hi]
      exact List.take_prefix _ _
  · intro h
    have hP : P = (nmN g).take P.length := List.prefix_iff_eq_take.1 h
    by_cases hl : P.length = (nmN g).length
    · left
      rw [hP, hl, List.take_length]
    · right
      have hlt : P.length < (nmN g).length := Nat.lt_of_le_of_ne h.length_le hl
      have hn := right_names' hr
      rw [← nm_cut hr] at hn
      have hu := of_names (p := ofL (glueL P)) (D := P) (by rw [toL_ofL]) (by
        rw [List.all_eq_true] at hn ⊢
        exact fun x hx => hn.1 x (h.subset hx)) (by omega)
      refine ⟨glueL P, ?_, ?_⟩
      · rw [upsL_glue]
        exact List.mem_map.2 ⟨P.length, List.mem_range.2 hlt, by rw [← show (nmN g).take P.length = (namesL (toL g.path)).take P.length from rfl, ← hP]⟩
      · have h2 : namesL (toL (ofL (glueL P))) = cutB (ofL (glueL P)) := by
          rw [names_cut, show rightL (toL (ofL (glueL P))) = true from hu.2]
          rfl
        rw [toL_ofL, hu.1] at h2
        exact h2
/-- Something is left at a place: a node of the receiver's, with no deletion, or above a guarded one. -/
theorem LaidAt.left_iff {S D G : List Nd} {del : Bool} {V : Ns → Pl} (h : LaidAt S D G del V) (hD : TW D) (hG : ∀ g ∈ G, g ∈ D) {P : Ns} (hP : P ≠ []) : (V P).left = true ↔ ∃ n ∈ D, nmN n = P ∧ (del = false ∨ ∃ g ∈ G, P <+: nmN g) := by
  rw [h.left P]
  constructor
  · rintro (⟨h1, n, hn, e⟩ | ⟨g, hg, hgs⟩)
    · exact ⟨n, hn, e, .inl h1⟩
    · have hr := hD.rights g (hG g hg)
      have hp := (guards_iff hr).1 hgs
      obtain ⟨R, hR⟩ := hp
      by_cases hR0 : R = []
      · subst hR0
        rw [List.append_nil] at hR
        exact ⟨g, hG g hg, hR.symm, .inr ⟨g, hg, by rw [hR]; exact List.prefix_refl _⟩⟩
      · obtain ⟨m, hm, e, _⟩ := hD.above R.length g P R (hG g hg) (Nat.le_refl _) (by rw [← nm_cut hr]; exact hR.symm) hP hR0
        exact ⟨m, hm, by rw [nm_cut (hD.rights m hm)]; exact e, .inr ⟨g, hg, ⟨R, hR⟩⟩⟩
  · rintro ⟨n, hn, e, h1 | ⟨g, hg, h2⟩⟩
    · exact .inl ⟨h1, n, hn, e⟩
    · exact .inr ⟨g, hg, (guards_iff (hD.rights g (hG g hg))).2 h2⟩
/-- Where something is left, something is left of all above it. -/
theorem LaidAt.left_up {S D G : List Nd} {del : Bool} {V : Ns → Pl} (h : LaidAt S D G del V) (hD : TW D) (hG : ∀ g ∈ G, g ∈ D) {P R : Ns} (hP : P ≠ []) (hl : (V (P ++ R)).left = true) : (V P).left = true := by
  obtain ⟨n, hn, e, hc⟩ := (h.left_iff hD hG (by simp [hP])).1 hl
  refine (h.left_iff hD hG hP).2 ?_
  have hc2 : del = false ∨ ∃ g ∈ G, P <+: nmN g := hc.imp id fun ⟨g, hg, hp⟩ => ⟨g, hg, (List.prefix_append P R).trans hp⟩
  by_cases hR : R = []
  · subst hR
    rw [List.append_nil] at e
    exact ⟨n, hn, e, hc2⟩
  · obtain ⟨m, hm, e2, _⟩ := hD.above R.length n P R hn (Nat.le_refl _) (by rw [← nm_cut (hD.rights n hn)]; exact e) hP hR
    exact ⟨m, hm, by rw [nm_cut (hD.rights m hm)]; exact e2, hc2⟩
/-- Whose node is told of a place stands there. -/
theorem LaidAt.ours_in {S D G : List Nd} {del : Bool} {V : Ns → Pl} (h : LaidAt S D G del V) {P : Ns} (ho : oursV (V P) = true) : (V P).s ∈ S ∧ nmN (V P).s = P := by
  rcases h.s_cases P with e | e
  · unfold oursV at ho
    rw [e] at ho
    cases ho
  · exact e
theorem LaidAt.left_in {S D G : List Nd} {del : Bool} {V : Ns → Pl} (h : LaidAt S D G del V) (hD : TW D) (hG : ∀ g ∈ G, g ∈ D) {P : Ns} (hP : P ≠ []) (hl : (V P).left = true) : (V P).d ∈ D ∧ nmN (V P).d = P := by
  obtain ⟨n, hn, e, _⟩ := (h.left_iff hD hG hP).1 hl
  subst e
  rw [h.dIn n hn]
  exact ⟨hn, rfl⟩
theorem emit_in {S D G : List Nd} {del : Bool} {V : Ns → Pl} (h : LaidAt S D G del V) (hD : TW D) (hG : ∀ g ∈ G, g ∈ D) {P : Ns} {t : Bool} (hP : P ≠ []) (hr : rr V false [] P = some t) :
    nmN (emit V (P, t)).node = P ∧ if t = true then (emit V (P, t)).node ∈ D else (emit V (P, t)).node ∈ S := by
  have he := rr_end hP hr
  cases t
  · have := h.ours_in he
    exact ⟨this.2, this.1⟩
  · have := h.left_in hD hG hP he
    exact ⟨this.2, this.1⟩
theorem Told.sortedN {S D G : List Nd} {del : Bool} {V : Ns → Pl} {l : List Fd} (ht : Told V l) (h : LaidAt S D G del V) (hS : TW S) (hD : TW D) (hG : ∀ g ∈ G, g ∈ D) : Sorted (l.map (·.node)) := by
  have hrt : ∀ f ∈ l, rightB f.node.path := fun f hf => by
    obtain ⟨P, t, hP, hr, rfl⟩ := (ht.iff f).1 hf
    have := (emit_in h hD hG hP hr).2
    cases t
    · exact hS.rights _ this
    · exact hD.rights _ this
  have hap : l.Pairwise fun a b => nmN a.node ≠ nmN b.node := by
    obtain ⟨K, hK, hp⟩ := ht.mem
    refine (hp.pairwise_iff (fun {a b} hab e => hab e.symm)).2 ?_
    rw [List.pairwise_map]
    refine List.Pairwise.imp_of_mem ?_ hK.apart
    intro a b ha hb hab e
    obtain ⟨x, Q, _, h1, h2⟩ := (hK.mem a).1 ha
    obtain ⟨y, R, _, h3, h4⟩ := (hK.mem b).1 hb
    have e1 := (emit_in h hD hG (P := a.1) (t := a.2) (by rw [h1]; simp) (by rw [h1]; exact h2)).1
    have e2 := (emit_in h hD hG (P := b.1) (t := b.2) (by rw [h3]; simp) (by rw [h3]; exact h4)).1
    exact hab (e1.symm.trans (e.trans e2))
  unfold Sorted
  rw [List.pairwise_map]
  refine List.Pairwise.imp_of_mem ?_ (ht.sorted.and hap)
  intro a b ha hb hab
  rcases Int.lt_or_eq_of_le hab.1 with h1 | h1
  · exact h1
  · refine absurd ?_ hab.2
    rw [nm_cut (hrt a ha), nm_cut (hrt b hb)]
    have := (cmpL_zero _ _).1 h1
    unfold cutB
    rw [this]
end Go.Proofs.YteoafohebgfjdaaGreatDoor
/-
  MirrorPlain's words: plain.
-/
namespace Go.Proofs.YteoafohebgfjdaaGreatDoor
open Go.RowKit
set_option maxRecDepth 100000

/-- By a list's end. -/
theorem snoc_ind {α : Type} {p : List α → Prop} (h0 : p []) (h1 : ∀ Q x, p Q → p (Q ++ [x])) : ∀ (k : Nat) (l : List α), l.length = k → p l
  | 0, l, hl => by rw [List.eq_nil_of_length_eq_zero hl]; exact h0
  | k + 1, l, hl => by
    have hne : l ≠ [] := fun e => by rw [e] at hl; cases hl
    have := snoc_ind h0 h1 k l.dropLast (by simp [hl])
    rw [← List.dropLast_concat_getLast hne]
    exact h1 _ _ this
/-- Where something is told all the way down. -/
theorem rr_all {V : Ns → Pl} (P : Ns) (h : ∀ Q, Q ≠ [] → Q <+: P → ∀ t, nxt t (V Q) ≠ none) : ∃ t, rr V false [] P = some t := by
  refine snoc_ind (p := fun P => (∀ Q, Q ≠ [] → Q <+: P → ∀ t, nxt t (V Q) ≠ none) → ∃ t, rr V false [] P = some t) (fun _ => ⟨false, rfl⟩) (fun Q x ih h => ?_) P.length P rfl h
  obtain ⟨t, ht⟩ := ih fun R hR hp => h R hR (hp.trans (List.prefix_append _ _))
  rw [rr_last, ht]
  show ∃ t', nxt t (V ([] ++ Q ++ [x])) = some t'
  rw [List.nil_append]
  exact Option.ne_none_iff_exists'.1 (h (Q ++ [x]) (by simp) (List.prefix_refl _) t)
theorem nxt_left {t : Bool} {v : Pl} (h : v.left = true) : nxt t v ≠ none := by
  unfold nxt
  split
  · intro e; cases e
  · intro e; cases e
/-- Where something is left, someone's node is told. -/
theorem rr_left {S D G : List Nd} {del : Bool} {V : Ns → Pl} (h : LaidAt S D G del V) (hD : TW D) (hG : ∀ g ∈ G, g ∈ D) {P : Ns} (hl : (V P).left = true) : ∃ t, rr V false [] P = some t :=
  rr_all P fun Q hQ hp t => by
    obtain ⟨R, rfl⟩ := hp
    exact nxt_left (h.left_up hD hG hQ hl)
/-- The receiver's alone: what is left. -/
theorem told_left {D G : List Nd} {del : Bool} {V : Ns → Pl} {l : List Fd} (ht : Told V l) (h : LaidAt [] D G del V) (hD : TW D) (hG : ∀ g ∈ G, g ∈ D) (n : Nd) : n ∈ l.map (·.node) ↔ n ∈ D ∧ (del = false ∨ ∃ g ∈ G, nmN n <+: nmN g) := by
  have hno : ∀ P, oursV (V P) = false := fun P => by
    unfold oursV
    rw [h.sOut P fun n hn => by cases hn]
    rfl
  rw [List.mem_map]
  constructor
  · rintro ⟨f, hf, rfl⟩
    obtain ⟨P, t, hP, hr, rfl⟩ := (ht.iff f).1 hf
    have he := rr_end hP hr
    cases t
    · rw [hno P] at he; cases he
    · have h1 := h.left_in hD hG hP he
      obtain ⟨m, hm, e, hc⟩ := (h.left_iff hD hG hP).1 he
      refine ⟨h1.1, ?_⟩
      show del = false ∨ ∃ g ∈ G, nmN (V P).d <+: nmN g
      rw [h1.2]
      exact hc
  · rintro ⟨hn, hc⟩
    have hP : nmN n ≠ [] := by rw [nm_cut (hD.rights n hn)]; exact hD.named n hn
    have hl := (h.left_iff hD hG hP).2 ⟨n, hn, rfl, hc⟩
    obtain ⟨t, hr⟩ := rr_left h hD hG hl
    have he := rr_end hP hr
    cases t
    · rw [hno] at he; cases he
    · exact ⟨_, (ht.iff _).2 ⟨nmN n, true, hP, hr, rfl⟩, h.dIn n hn⟩
/-- The sender's alone: nothing of the receiver's is left. -/
theorem told_sent {S D : List Nd} {V : Ns → Pl} {l : List Fd} (ht : Told V l) (h : LaidAt S D [] true V) (hS : TW S) (n : Nd) : n ∈ l.map (·.node) ↔ n ∈ S := by
  have hnl : ∀ P, (V P).left = false := fun P => by
    cases e : (V P).left with
    | false => rfl
    | true =>
      rcases (h.left P).1 e with ⟨h1, _⟩ | ⟨g, hg, _⟩
      · cases h1
      · cases hg
  have hns : ∀ P, (V P).shut = false := fun P => by
    cases e : (V P).shut with
    | false => rfl
    | true =>
      obtain ⟨g, hg, _⟩ := (h.shut P).1 e
      cases hg
  have hou : ∀ n ∈ S, oursV (V (nmN n)) = true := fun n hn => by
    unfold oursV
    rw [h.sIn n hn, hns, hnl]
    have := hS.kinds n hn
    simp
    omega
  rw [List.mem_map]
  constructor
  · rintro ⟨f, hf, rfl⟩
    obtain ⟨P, t, hP, hr, rfl⟩ := (ht.iff f).1 hf
    have he := rr_end hP hr
    cases t
    · exact (h.ours_in he).1
    · rw [hnl] at he; cases he
  · intro hn
    have hP : nmN n ≠ [] := by rw [nm_cut (hS.rights n hn)]; exact hS.named n hn
    have hQ : ∀ Q, Q ≠ [] → Q <+: nmN n → oursV (V Q) = true := fun Q hQ hp => by
      obtain ⟨R, hR⟩ := hp
      by_cases hR0 : R = []
      · subst hR0
        rw [List.append_nil] at hR
        rw [hR]
        exact hou n hn
      · obtain ⟨m, hm, e, _⟩ := hS.above R.length n Q R hn (Nat.le_refl _) (by rw [← nm_cut (hS.rights n hn)]; exact hR.symm) hQ hR0
        rw [← e, ← nm_cut (hS.rights m hm)]
        exact hou m hm
    have hr : rr V false [] (nmN n) = some false := by
      refine snoc_ind (p := fun P => (∀ Q, Q ≠ [] → Q <+: P → oursV (V Q) = true) → rr V false [] P = some false) (fun _ => rfl) (fun Q x ih h => ?_) _ _ rfl hQ
      rw [rr_last, ih fun R hR hp => h R hR (hp.trans (List.prefix_append _ _))]
      show nxt false (V ([] ++ Q ++ [x])) = some false
      rw [List.nil_append]
      unfold nxt
      rw [h (Q ++ [x]) (by simp) (List.prefix_refl _)]
      rfl
    exact ⟨_, (ht.iff _).2 ⟨nmN n, false, hP, hr, rfl⟩, h.sIn n hn⟩
/-- Without deletion each of the receiver's nodes is told, or the sender's in its place. -/
theorem told_keeps {S D G : List Nd} {V : Ns → Pl} {l : List Fd} (ht : Told V l) (h : LaidAt S D G false V) (hD : TW D) (hG : ∀ g ∈ G, g ∈ D) {n : Nd} (hn : n ∈ D) : n ∈ l.map (·.node) ∨ ∃ m ∈ l.map (·.node), m ∈ S ∧ nmN m = nmN n := by
  have hP : nmN n ≠ [] := by rw [nm_cut (hD.rights n hn)]; exact hD.named n hn
  have hl := (h.left_iff hD hG hP).2 ⟨n, hn, rfl, .inl rfl⟩
  obtain ⟨t, hr⟩ := rr_left h hD hG hl
  have he := rr_end hP hr
  cases t
  · have h1 := h.ours_in he
    exact .inr ⟨_, List.mem_map.2 ⟨_, (ht.iff _).2 ⟨nmN n, false, hP, hr, rfl⟩, rfl⟩, h1.1, h1.2⟩
  · exact .inl (List.mem_map.2 ⟨_, (ht.iff _).2 ⟨nmN n, true, hP, hr, rfl⟩, h.dIn n hn⟩)
end Go.Proofs.YteoafohebgfjdaaGreatDoor
