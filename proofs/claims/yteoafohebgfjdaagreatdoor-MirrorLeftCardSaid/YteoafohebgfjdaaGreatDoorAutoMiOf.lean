/-
  Texts that belong together: MiLeftMath, MiStaysMath, MiStaysMore, MiOf.
-/
import Derived.Test.YteoafohebgfjdaaGreatDoorAutoMiPlainMath
import Derived.Test.YteoafohebgfjdaaGreatDoorMiRefLeft
import Derived.Test.YteoafohebgfjdaaGreatDoorAutoMiMarks
import Derived.Test.YteoafohebgfjdaaGreatDoorMiLay
/-
  MirrorLeft's words: plain.
-/
namespace Go.Proofs.YteoafohebgfjdaaGreatDoor
open Go.RowKit
set_option maxRecDepth 100000

theorem TW.nil : TW [] := ⟨fun _ h => (List.not_mem_nil h).elim, List.Pairwise.nil, fun _ h => (List.not_mem_nil h).elim, fun _ h => (List.not_mem_nil h).elim, fun _ h => (List.not_mem_nil h).elim, fun _ h => (List.not_mem_nil h).elim⟩
/-- What is left of the receiver's. -/
def keepB (G : List Nd) (del : Bool) (n : Nd) : Bool := !del || G.any fun g => (nmN n).isPrefixOf (nmN g)
theorem keepB_iff (G : List Nd) (del : Bool) (n : Nd) : keepB G del n = true ↔ del = false ∨ ∃ g ∈ G, nmN n <+: nmN g := by
  unfold keepB
  rw [Bool.or_eq_true, List.any_eq_true]
  simp only [List.isPrefixOf_iff_prefix, Bool.not_eq_true']
theorem told_list {D G : List Nd} {del : Bool} {V : Ns → Pl} {l : List Fd} (ht : Told V l) (h : LaidAt [] D G del V) (hD : TW D) (hG : ∀ g ∈ G, g ∈ D) : l.map (·.node) = D.filter (keepB G del) := by
  refine sorted_ext (ht.sortedN h TW.nil hD hG) (List.Pairwise.sublist List.filter_sublist hD.sorted) fun n => ?_
  rw [told_left ht h hD hG, List.mem_filter, keepB_iff]
theorem TW.keep {D : List Nd} (hD : TW D) (G : List Nd) (del : Bool) : TW (D.filter (keepB G del)) := by
  refine hD.filter _ fun n hn m hm e _ hk => ?_
  rw [keepB_iff] at hk ⊢
  refine hk.imp id fun ⟨g, hg, hp⟩ => ⟨g, hg, ?_⟩
  obtain ⟨x, hx⟩ := parent_snoc (hD.rights n hn) (hD.named n hn) e
  rw [nm_cut (hD.rights n hn), hx] at hp
  rw [nm_cut (hD.rights m hm)]
  exact (List.prefix_append _ _).trans hp
theorem one_path {D : List Nd} (hD : TW D) {n m : Nd} (hn : n ∈ D) (hm : m ∈ D) (e : nmN n = nmN m) : n = m := by
  by_cases h : n = m
  · exact h
  · rcases List.mem_iff_getElem.1 hn with ⟨i, hi, rfl⟩
    rcases List.mem_iff_getElem.1 hm with ⟨j, hj, rfl⟩
    have hp := List.pairwise_iff_getElem.1 hD.apart
    rcases Nat.lt_trichotomy i j with hij | rfl | hij
    · exact absurd e (hp i j hi hj hij)
    · rfl
    · exact absurd e.symm (hp j i hj hi hij)
theorem within_names {D : List Nd} (hD : TW D) {n m : Nd} (hn : n ∈ D) (hm : m ∈ D) : withinB (toL m.path) (toL n.path) = true ↔ nmN n <+: nmN m := by
  unfold withinB
  rw [Bool.and_eq_true, Bool.and_eq_true, List.isPrefixOf_iff_prefix, nm_cut (hD.rights n hn), nm_cut (hD.rights m hm)]
  exact ⟨fun h => h.2, fun h => ⟨⟨hD.rights m hm, hD.rights n hn⟩, h⟩⟩
theorem okB_cut {n : Nd} {p : ByteArray} (h : okB n.path p = true) : cutB p <+: cutB n.path := by
  rw [okB_eq] at h
  unfold withinB at h
  rw [Bool.and_eq_true, List.isPrefixOf_iff_prefix] at h
  exact h.2
/-- The reference's words for what is left of a path. -/
theorem left_is {R : List (Bool × List UInt8)} {b : List Nd} {del : Bool} {p : ByteArray} (hb : TW (shownL b)) (hp : toL p ≠ []) : leftR R del p (shownL b) = ((shownL b).filter (keepB (guardL R b) del)).filter fun n => okB n.path p := by
  have hcp : cutB p ≠ [] := fun e => hp (by rw [← glue_cutB p, e]; rfl)
  have hin : ∀ n ∈ shownL b, okB n.path p = true → ∃ m ∈ shownL b, m.path = p := fun n hn ho => by
    obtain ⟨Q, hQ⟩ := okB_cut ho
    by_cases h0 : Q = []
    · subst h0
      rw [List.append_nil] at hQ
      exact ⟨n, hn, (cutB_inj hQ).symm⟩
    · obtain ⟨m, hm, e, _⟩ := hb.above Q.length n (cutB p) Q hn (Nat.le_refl _) hQ.symm hcp h0
      exact ⟨m, hm, cutB_inj e⟩
  unfold leftR
  by_cases hat : atL p (shownL b) < 0
  · rw [if_pos hat]
    symm
    rw [List.filter_eq_nil_iff]
    intro n hn ho
    obtain ⟨m, hm, e⟩ := hin n (List.mem_filter.1 hn).1 ho
    exact at_none p (shownL b) 0 hat m hm e
  rw [if_neg hat, if_neg (by rw [toL_empty]; exact hp)]
  cases del with
  | false =>
    rw [if_pos rfl, side_sub]
    congr 1
    symm
    rw [List.filter_eq_self]
    intro n _
    rfl
  | true =>
    rw [if_neg (by decide), side_sub, List.filter_filter, List.filter_filter]
    refine List.filter_congr fun n hn => ?_
    cases ho : okB n.path p with
    | false => simp
    | true =>
      rw [Bool.and_true, Bool.true_and, Bool.eq_iff_iff, keepB_iff]
      unfold stayB
      rw [Bool.or_eq_true, List.any_eq_true]
      constructor
      · rintro (h | ⟨m, hm, h⟩)
        · exact .inr ⟨n, List.mem_filter.2 ⟨hn, h⟩, List.prefix_refl _⟩
        · unfold coverB at h
          rw [Bool.and_eq_true, Bool.and_eq_true, Bool.and_eq_true] at h
          obtain ⟨h1, h2⟩ := List.mem_filter.1 hm
          exact .inr ⟨m, List.mem_filter.2 ⟨h1, h.2.2.2⟩, (within_names hb hn h1).1 h.2.2.1⟩
      · rintro (h | ⟨g, hg, h⟩)
        · cases h
        · obtain ⟨h1, h2⟩ := List.mem_filter.1 hg
          by_cases e : nmN n = nmN g
          · left
            rw [one_path hb hn h1 e]
            exact h2
          · right
            obtain ⟨Q, hQ⟩ := h
            have hQ0 : Q ≠ [] := fun h0 => e (by rw [← hQ, h0, List.append_nil])
            have hk : n.kind = 1 := by
              obtain ⟨m, hm, e2, hk⟩ := hb.above Q.length g (nmN n) Q h1 (Nat.le_refl _) (by rw [← nm_cut (hb.rights g h1)]; exact hQ.symm) (by rw [nm_cut (hb.rights n hn)]; exact hb.named n hn) hQ0
              rw [one_path hb hn hm (by rw [nm_cut (hb.rights m hm), e2])]
              exact hk
            have hw : withinB (toL g.path) (toL n.path) = true := (within_names hb hn h1).2 ⟨Q, hQ⟩
            refine ⟨g, List.mem_filter.2 ⟨h1, ?_⟩, ?_⟩
            · rw [okB_eq] at ho ⊢
              unfold withinB at ho ⊢
              rw [Bool.and_eq_true, Bool.and_eq_true, List.isPrefixOf_iff_prefix] at ho ⊢
              refine ⟨⟨hb.rights g h1, ho.1.2⟩, ho.2.trans ?_⟩
              show cutB n.path <+: cutB g.path
              rw [← nm_cut (hb.rights n hn), ← nm_cut (hb.rights g h1)]
              exact ⟨Q, hQ⟩
            · unfold coverB
              rw [Bool.and_eq_true, Bool.and_eq_true, Bool.and_eq_true]
              refine ⟨by rw [hk]; rfl, ?_, hw, h2⟩
              rw [Bool.not_eq_true', beq_eq_false_iff_ne]
              intro e2
              rw [toL_list, toL_list] at e2
              exact e (by rw [nm_cut (hb.rights n hn), nm_cut (hb.rights g h1)]; unfold cutB; rw [e2])
theorem shown_shown (l : List Nd) : shownL (shownL l) = shownL l := by unfold shownL; rw [List.filter_filter]; simp
/-- Of what is left all is left. -/
theorem rest_is (R : List (Bool × List UInt8)) (b : List Nd) (del : Bool) : (shownL ((shownL b).filter (keepB (guardL R b) del))).filter (keepB (guardL R ((shownL b).filter (keepB (guardL R b) del))) del) = (shownL b).filter (keepB (guardL R b) del) := by
  have h1 : shownL ((shownL b).filter (keepB (guardL R b) del)) = (shownL b).filter (keepB (guardL R b) del) := by
    show ((shownL b).filter (keepB (guardL R b) del)).filter (fun n => !resB n) = _
    rw [List.filter_eq_self]
    intro n hn
    exact (List.mem_filter.1 (List.mem_filter.1 hn).1).2
  rw [h1, List.filter_eq_self]
  intro n hn
  have hk := (List.mem_filter.1 hn).2
  rw [keepB_iff] at hk ⊢
  refine hk.imp id fun ⟨g, hg, hp⟩ => ⟨g, ?_, hp⟩
  obtain ⟨h2, h3⟩ := List.mem_filter.1 hg
  refine List.mem_filter.2 ⟨?_, h3⟩
  rw [h1]
  exact List.mem_filter.2 ⟨h2, (keepB_iff _ _ _).2 (.inr ⟨g, hg, List.prefix_refl _⟩)⟩
end Go.Proofs.YteoafohebgfjdaaGreatDoor
/-
  MirrorStays's words: plain.
-/
namespace Go.Proofs.YteoafohebgfjdaaGreatDoor
open Go.RowKit
set_option maxRecDepth 100000

theorem sent_sent (R : List (Bool × List UInt8)) (l : List Nd) : sentL R (sentL R l) = sentL R l := by
  unfold sentL shownL
  simp only [List.filter_filter]
  refine List.filter_congr fun n _ => ?_
  cases resB n <;> cases shutN R n <;> rfl
theorem oursV_iff (v : Pl) : oursV v = true ↔ v.s.kind ≠ 0 ∧ v.shut = false ∧ (v.s.kind = 1 ∨ v.d.kind ≠ 1 ∨ v.left = false) := by
  unfold oursV
  rw [Bool.and_eq_true, Bool.not_eq_true', Bool.or_eq_false_iff, Bool.or_eq_true, Bool.or_eq_true, Bool.not_eq_true', beq_eq_false_iff_ne, beq_iff_eq, bne_iff_ne]
  constructor
  · rintro ⟨⟨h1, h2⟩, (h3 | h3) | h3⟩
    · exact ⟨h1, h2, .inl h3⟩
    · exact ⟨h1, h2, .inr (.inl h3)⟩
    · exact ⟨h1, h2, .inr (.inr h3)⟩
  · rintro ⟨h1, h2, h3 | h3 | h3⟩
    · exact ⟨⟨h1, h2⟩, .inl (.inl h3)⟩
    · exact ⟨⟨h1, h2⟩, .inl (.inr h3)⟩
    · exact ⟨⟨h1, h2⟩, .inr h3⟩
section
variable {S D G : List Nd} {del : Bool} {V : Ns → Pl} {l : List Fd}
/-- The mirror's nodes, by their paths. -/
theorem told_at (ht : Told V l) (h : LaidAt S D G del V) (hD : TW D) (hG : ∀ g ∈ G, g ∈ D) {n : Nd} (hn : n ∈ l.map (·.node)) : ∃ t, nmN n ≠ [] ∧ rr V false [] (nmN n) = some t ∧ n = (emit V (nmN n, t)).node := by
  obtain ⟨f, hf, rfl⟩ := List.mem_map.1 hn
  obtain ⟨P, t, hP, hr, rfl⟩ := (ht.iff f).1 hf
  have e := (emit_in h hD hG hP hr).1
  rw [e]
  exact ⟨t, hP, hr, rfl⟩
theorem at_told (ht : Told V l) {P : Ns} {t : Bool} (hP : P ≠ []) (hr : rr V false [] P = some t) : (emit V (P, t)).node ∈ l.map (·.node) := List.mem_map.2 ⟨_, (ht.iff _).2 ⟨P, t, hP, hr, rfl⟩, rfl⟩
/-- What is guarded is told, as it was. -/
theorem guard_told (h : LaidAt S D G del V) (hD : TW D) (hG : ∀ g ∈ G, g ∈ D) {g : Nd} (hg : g ∈ G) : rr V false [] (nmN g) = some true := by
  have hP : nmN g ≠ [] := by rw [nm_cut (hD.rights g (hG g hg))]; exact hD.named g (hG g hg)
  have hl := (h.left_iff hD hG hP).2 ⟨g, hG g hg, rfl, .inr ⟨g, hg, List.prefix_refl _⟩⟩
  obtain ⟨t, hr⟩ := rr_left h hD hG hl
  have he := rr_end hP hr
  cases t
  · have := ((oursV_iff _).1 he).2.1
    rw [(h.shut _).2 ⟨g, hg, rfl⟩] at this
    cases this
  · exact hr
theorem guard_in (ht : Told V l) (h : LaidAt S D G del V) (hD : TW D) (hG : ∀ g ∈ G, g ∈ D) {g : Nd} (hg : g ∈ G) : g ∈ l.map (·.node) := by
  have hP : nmN g ≠ [] := by rw [nm_cut (hD.rights g (hG g hg))]; exact hD.named g (hG g hg)
  have := at_told ht hP (guard_told h hD hG hg)
  have e : (emit V (nmN g, true)).node = g := h.dIn g (hG g hg)
  rw [e] at this
  exact this
/-- Above what is told a directory is told. -/
theorem told_dad (h : LaidAt S D G del V) (hS : TW S) (hD : TW D) (hG : ∀ g ∈ G, g ∈ D) {Q : Ns} {x : List UInt8} {t : Bool} (hQ : Q ≠ []) (hr : rr V false [] (Q ++ [x]) = some t) : ∃ u, rr V false [] Q = some u ∧ (emit V (Q, u)).node.kind = 1 := by
  have hP : Q ++ [x] ≠ [] := by simp
  have hem := emit_in h hD hG hP hr
  rw [rr_last] at hr
  cases hu : rr V false [] Q with
  | none => rw [hu] at hr; cases hr
  | some u =>
    rw [hu] at hr
    change nxt u (V ([] ++ Q ++ [x])) = some t at hr
    rw [List.nil_append] at hr
    refine ⟨u, rfl, ?_⟩
    have up : ∀ {T : List Nd} (hT : TW T) {n : Nd} (_ : n ∈ T) (_ : nmN n = Q ++ [x]), ∃ m ∈ T, nmN m = Q ∧ m.kind = 1 := fun {T} hT {n} hn e => by
      obtain ⟨m, hm, e2, hk⟩ := hT.above 1 n Q [x] hn (by simp) (by rw [← nm_cut (hT.rights n hn)]; exact e) hQ (by simp)
      exact ⟨m, hm, by rw [nm_cut (hT.rights m hm)]; exact e2, hk⟩
    have hqe := rr_end hQ hu
    cases t with
    | false =>
      obtain ⟨rfl, ho⟩ := nxt_ours hr
      obtain ⟨m, hm, e, hk⟩ := up hS hem.2 hem.1
      show (V Q).s.kind = 1
      rw [← e, h.sIn m hm]
      exact hk
    | true =>
      obtain ⟨m, hm, e, hk⟩ := up hD hem.2 hem.1
      have hdk : (V Q).d.kind = 1 := by rw [← e, h.dIn m hm]; exact hk
      cases u with
      | true => exact hdk
      | false =>
        have hl := h.left_up hD hG (R := [x]) hQ (nxt_theirs hr).2
        obtain ⟨_, _, h3⟩ := (oursV_iff _).1 hqe
        rcases h3 with h3 | h3 | h3
        · exact h3
        · exact absurd hdk h3
        · rw [hl] at h3; cases h3
/-- The mirror is a tree again. -/
theorem TW.mirror (ht : Told V l) (h : LaidAt S D G del V) (hS : TW S) (hD : TW D) (hG : ∀ g ∈ G, g ∈ D) : TW (l.map (·.node)) := by
  have hin : ∀ n ∈ l.map (·.node), n ∈ S ∨ n ∈ D := fun n hn => by
    obtain ⟨t, hP, hr, e⟩ := told_at ht h hD hG hn
    have := (emit_in h hD hG hP hr).2
    rw [e]
    cases t
    · exact .inl this
    · exact .inr this
  have hr : ∀ n ∈ l.map (·.node), rightB n.path := fun n hn => (hin n hn).elim (hS.rights n) (hD.rights n)
  refine ⟨hr, ht.sortedN h hS hD hG, fun n hn => ?_, fun n hn => (hin n hn).elim (hS.kinds n) (hD.kinds n), fun n hn => (hin n hn).elim (hS.named n) (hD.named n), fun n hn => (hin n hn).elim (hS.few n) (hD.few n)⟩
  have hpc := parent_cut (hr n hn)
  by_cases h0 : (cutB n.path).dropLast = []
  · left
    exact cutB_inj (by rw [hpc, h0]; rfl)
  · right
    obtain ⟨t, hP, hrr, e⟩ := told_at ht h hD hG hn
    have hne : cutB n.path ≠ [] := fun e => h0 (by rw [e]; rfl)
    have e1 : nmN n = (cutB n.path).dropLast ++ [(cutB n.path).getLast hne] := by rw [nm_cut (hr n hn)]; exact (List.dropLast_concat_getLast hne).symm
    rw [e1] at hrr
    obtain ⟨u, hu, hk⟩ := told_dad h hS hD hG h0 hrr
    have hm := at_told ht h0 hu
    refine ⟨_, hm, cutB_inj ?_, hk⟩
    rw [hpc, ← nm_cut (hr _ hm)]
    exact (emit_in h hD hG h0 hu).1
/-- The mirror of a tree and of the mirror tells the same. -/
theorem mirror_rr (ht : Told V l) (h : LaidAt S D G del V) (hS : TW S) (hD : TW D) (hG : ∀ g ∈ G, g ∈ D) {V' : Ns → Pl} (h' : LaidAt S (l.map (·.node)) G del V') (P : Ns) : rr V' false [] P = rr V false [] P := by
  have hM := TW.mirror ht h hS hD hG
  have hGM : ∀ g ∈ G, g ∈ l.map (·.node) := fun g hg => guard_in ht h hD hG hg
  have hs : ∀ P, (V' P).s = (V P).s := fun P => by
    by_cases k : ∀ n ∈ S, nmN n ≠ P
    · rw [h.sOut P k, h'.sOut P k]
    · obtain ⟨n, hn, rfl⟩ : ∃ n ∈ S, nmN n = P := by simpa using k
      rw [h.sIn n hn, h'.sIn n hn]
  have hsh : ∀ P, (V' P).shut = (V P).shut := fun P => by rw [Bool.eq_iff_iff, h.shut, h'.shut]
  have hd : ∀ P t, P ≠ [] → rr V false [] P = some t → (V' P).d = (emit V (P, t)).node := fun P t hP hr => by
    have := h'.dIn _ (at_told ht hP hr)
    rw [(emit_in h hD hG hP hr).1] at this
    exact this
  refine snoc_ind (p := fun P => rr V' false [] P = rr V false [] P) rfl (fun Q x ih => ?_) P.length P rfl
  rw [rr_last, rr_last, ih]
  cases hu : rr V false [] Q with
  | none => rfl
  | some u =>
    show nxt u (V' ([] ++ Q ++ [x])) = nxt u (V ([] ++ Q ++ [x]))
    rw [List.nil_append]
    have hP : Q ++ [x] ≠ [] := by simp
    have hrr : rr V false [] (Q ++ [x]) = nxt u (V (Q ++ [x])) := by rw [rr_last, hu]; rfl
    generalize hPP : Q ++ [x] = P at hP hrr ⊢
    cases ht1 : nxt u (V P) with
    | none =>
      rw [ht1] at hrr
      have hl : (V P).left = false := by
        cases e : (V P).left with
        | false => rfl
        | true => exact absurd ht1 (nxt_left e)
      have hl' : (V' P).left = false := by
        cases e : (V' P).left with
        | false => rfl
        | true =>
          obtain ⟨n, hn, e2, _⟩ := (h'.left_iff hM hGM hP).1 e
          obtain ⟨t, _, hr, _⟩ := told_at ht h hD hG hn
          rw [e2, hrr] at hr
          cases hr
      have hou : u = false → oursV (V' P) = false := fun hu0 => by
        have h1 : oursV (V P) = false := by
          cases e : oursV (V P) with
          | false => rfl
          | true => unfold nxt at ht1; rw [hu0, e] at ht1; cases ht1
        rw [← Bool.not_eq_true, oursV_iff] at h1 ⊢
        rw [hs, hsh]
        exact fun ⟨a, b, _⟩ => h1 ⟨a, b, .inr (.inr hl)⟩
      unfold nxt
      rw [hl', if_neg (by
        rw [Bool.and_eq_true, Bool.not_eq_true']
        rintro ⟨a, b⟩
        rw [hou a] at b
        cases b), if_neg (by decide)]
    | some t =>
      rw [ht1] at hrr
      have hdP := hd P t hP hrr
      cases t with
      | false =>
        obtain ⟨rfl, ho⟩ := nxt_ours ht1
        have ho' : oursV (V' P) = true := by
          rw [oursV_iff] at ho ⊢
          rw [hs, hsh, hdP]
          refine ⟨ho.1, ho.2.1, ?_⟩
          show (V P).s.kind = 1 ∨ (V P).s.kind ≠ 1 ∨ _
          by_cases k : (V P).s.kind = 1
          · exact .inl k
          · exact .inr (.inl k)
        unfold nxt
        rw [ho']
        rfl
      | true =>
        obtain ⟨hc, hl⟩ := nxt_theirs ht1
        have hl' : (V' P).left = true := by
          obtain ⟨n, hn, e, hc2⟩ := (h.left_iff hD hG hP).1 hl
          refine (h'.left_iff hM hGM hP).2 ⟨_, at_told ht hP hrr, (emit_in h hD hG hP hrr).1, hc2⟩
        have hou : u = false → oursV (V' P) = false := fun hu0 => by
          have h1 : oursV (V P) = false := by
            rcases hc with hc | hc
            · rw [hu0] at hc; cases hc
            · exact hc
          rw [← Bool.not_eq_true, oursV_iff] at h1 ⊢
          rw [hs, hsh, hdP, hl']
          rw [hl] at h1
          exact h1
        unfold nxt
        rw [hl', if_neg (by
          rw [Bool.and_eq_true, Bool.not_eq_true']
          rintro ⟨a, b⟩
          rw [hou a] at b
          cases b), if_pos rfl]
theorem mirror_twice (ht : Told V l) (h : LaidAt S D G del V) (hS : TW S) (hD : TW D) (hG : ∀ g ∈ G, g ∈ D) {V' : Ns → Pl} {l' : List Fd} (h' : LaidAt S (l.map (·.node)) G del V') (ht' : Told V' l') : l'.map (·.node) = l.map (·.node) := by
  have hM := TW.mirror ht h hS hD hG
  have hGM : ∀ g ∈ G, g ∈ l.map (·.node) := fun g hg => guard_in ht h hD hG hg
  have hem : ∀ P t, P ≠ [] → rr V false [] P = some t → (emit V' (P, t)).node = (emit V (P, t)).node := fun P t hP hr => by
    cases t
    · have h1 := (emit_in h hD hG hP hr)
      have h2 : (V P).s ∈ S ∧ nmN (V P).s = P := ⟨h1.2, h1.1⟩
      have := h'.sIn _ h2.1
      rw [h2.2] at this
      exact this
    · have := h'.dIn _ (at_told ht hP hr)
      rw [(emit_in h hD hG hP hr).1] at this
      exact this
  refine sorted_ext (ht'.sortedN h' hS hM hGM) hM.sorted fun n => ?_
  constructor
  · intro hn
    obtain ⟨t, hP, hr, e⟩ := told_at ht' h' hM hGM hn
    rw [mirror_rr ht h hS hD hG h'] at hr
    rw [e, hem _ _ hP hr]
    exact at_told ht hP hr
  · intro hn
    obtain ⟨t, hP, hr, e⟩ := told_at ht h hD hG hn
    have hr' := hr
    rw [← mirror_rr ht h hS hD hG h'] at hr'
    rw [e, ← hem _ _ hP hr]
    exact at_told ht' hP hr'
end
end Go.Proofs.YteoafohebgfjdaaGreatDoor
/-
  The laws' words about the mirror as the program tells it: plain.
-/
namespace Go.Proofs.YteoafohebgfjdaaGreatDoor
open Go.RowKit
set_option maxRecDepth 100000

theorem LaidAt.same {S D G G' : List Nd} {del : Bool} {V : Ns → Pl} (h : LaidAt S D G del V) (e : ∀ n, n ∈ G' ↔ n ∈ G) : LaidAt S D G' del V :=
  ⟨h.sIn, h.sOut, h.dIn, h.dOut, fun P => (h.shut P).trans ⟨fun ⟨g, hg, k⟩ => ⟨g, (e g).2 hg, k⟩, fun ⟨g, hg, k⟩ => ⟨g, (e g).1 hg, k⟩⟩,
    fun P => (h.left P).trans (or_congr_right ⟨fun ⟨g, hg, k⟩ => ⟨g, (e g).2 hg, k⟩, fun ⟨g, hg, k⟩ => ⟨g, (e g).1 hg, k⟩⟩)⟩
/-- What the program lays of two trees. -/
theorem laid_trees (R : List (Bool × List UInt8)) {a b : List Nd} (del : Bool) (ha : TW a) (hb : TW b) : LaidAt (sentL R a) (shownL b) (guardL R b) del (layV (sentL R a) (shownL b) (guardL R b) del) :=
  layV_at _ _ (ha.sent R).apart hb.shown.apart
theorem guard_sub (R : List (Bool × List UInt8)) (b : List Nd) : ∀ g ∈ guardL R b, g ∈ shownL b := fun _ hg => (List.mem_filter.1 hg).1
section
variable {R : List (Bool × List UInt8)} {a b : List Nd} {del : Bool} {l : List Fd}
theorem mirror_mem (ha : TW a) (hb : TW b) (ht : Told (layV (sentL R a) (shownL b) (guardL R b) del) l) {n : Nd} (hn : n ∈ l.map (·.node)) : n ∈ sentL R a ∨ n ∈ shownL b := by
  have h := laid_trees R del ha hb
  obtain ⟨t, hP, hr, e⟩ := told_at ht h hb.shown (guard_sub R b) hn
  have := (emit_in h hb.shown (guard_sub R b) hP hr).2
  rw [e]
  cases t
  · exact .inl this
  · exact .inr this
theorem mirror_tw (ha : TW a) (hb : TW b) (ht : Told (layV (sentL R a) (shownL b) (guardL R b) del) l) : TW (l.map (·.node)) :=
  TW.mirror ht (laid_trees R del ha hb) (ha.sent R) hb.shown (guard_sub R b)
theorem mirror_shown (ha : TW a) (hb : TW b) (ht : Told (layV (sentL R a) (shownL b) (guardL R b) del) l) : shownL (l.map (·.node)) = l.map (·.node) := by
  show (l.map (·.node)).filter (fun n => !resB n) = _
  rw [List.filter_eq_self]
  intro n hn
  rcases mirror_mem ha hb ht hn with h | h
  · exact (List.mem_filter.1 (List.mem_filter.1 h).1).2
  · exact (List.mem_filter.1 h).2
theorem mirror_guard (ha : TW a) (hb : TW b) (ht : Told (layV (sentL R a) (shownL b) (guardL R b) del) l) (n : Nd) : n ∈ guardL R b ↔ n ∈ guardL R (l.map (·.node)) := by
  have hin := fun g hg => guard_in ht (laid_trees R del ha hb) hb.shown (guard_sub R b) (g := g) hg
  constructor
  · intro hg
    refine List.mem_filter.2 ⟨?_, (List.mem_filter.1 hg).2⟩
    rw [mirror_shown ha hb ht]
    exact hin n hg
  · intro hg
    obtain ⟨h1, h2⟩ := List.mem_filter.1 hg
    rw [mirror_shown ha hb ht] at h1
    rcases mirror_mem ha hb ht h1 with h | h
    · have := (List.mem_filter.1 h).2
      rw [h2] at this
      cases this
    · exact List.mem_filter.2 ⟨h, h2⟩
/-- MirrorStays: the mirror of a tree and of the mirror is the mirror. -/
theorem stays_is (ha : TW a) (hb : TW b) (ht : Told (layV (sentL R a) (shownL b) (guardL R b) del) l) {l' : List Fd} (ht' : Told (layV (sentL R a) (shownL (l.map (·.node))) (guardL R (l.map (·.node))) del) l') : l'.map (·.node) = l.map (·.node) := by
  have hM := mirror_tw ha hb ht
  have h' := laid_trees R del ha hM
  rw [mirror_shown ha hb ht] at h' ht'
  exact mirror_twice ht (laid_trees R del ha hb) (ha.sent R) hb.shown (guard_sub R b) (h'.same (mirror_guard ha hb ht)) ht'
/-- MirrorStays: what is guarded is found, as it was. -/
theorem guarded_in (ha : TW a) (hb : TW b) (ht : Told (layV (sentL R a) (shownL b) (guardL R b) del) l) : ∀ g ∈ guardL R b, g ∈ l.map (·.node) := fun _ hg => guard_in ht (laid_trees R del ha hb) hb.shown (guard_sub R b) hg
end
theorem shut_nil (n : Nd) : shutN [] n = false := shut_none _ _
theorem sent_nil (a : List Nd) : sentL [] a = shownL a := by
  unfold sentL
  rw [List.filter_eq_self]
  intro n _
  rw [shut_nil]
  rfl
theorem guard_nil (b : List Nd) : guardL [] b = [] := by
  unfold guardL
  rw [List.filter_eq_nil_iff]
  intro n _ h
  rw [shut_nil] at h
  cases h
/-- MirrorPlain: without rules, with deletion: the sender's tree. -/
theorem plain_is {a b : List Nd} {l : List Fd} (ha : TW a) (hb : TW b) (ht : Told (layV (sentL [] a) (shownL b) (guardL [] b) true) l) : l.map (·.node) = shownL a := by
  have h := laid_trees [] true ha hb
  rw [guard_nil, sent_nil] at h ht
  exact sorted_ext (ht.sortedN h ha.shown hb.shown fun g hg => (List.not_mem_nil hg).elim) ha.shown.sorted fun n => told_sent ht h ha.shown n
/-- Of an empty tree of the receiver's: what is sent. -/
theorem empty_is {R : List (Bool × List UInt8)} {a : List Nd} {l : List Fd} (ha : TW a) (ht : Told (layV (sentL R a) (shownL []) (guardL R []) true) l) : l.map (·.node) = sentL R a := by
  have h := laid_trees R true ha TW.nil
  exact sorted_ext (ht.sortedN h (ha.sent R) TW.nil fun g hg => (List.not_mem_nil hg).elim) (ha.sent R).sorted fun n => told_sent ht h (ha.sent R) n
/-- The mirror of no tree: what is left of the receiver's. -/
theorem left_of {R : List (Bool × List UInt8)} {b : List Nd} {del : Bool} {l : List Fd} (hb : TW b) (ht : Told (layV (sentL R []) (shownL b) (guardL R b) del) l) : l.map (·.node) = (shownL b).filter (keepB (guardL R b) del) :=
  told_list ht (laid_trees R del TW.nil hb) hb.shown (guard_sub R b)
/-- Without deletion: all of it. -/
theorem keeps_all {R : List (Bool × List UInt8)} {b : List Nd} {l : List Fd} (hb : TW b) (ht : Told (layV (sentL R []) (shownL b) (guardL R b) false) l) : l.map (·.node) = shownL b := by
  rw [left_of hb ht, List.filter_eq_self]
  intro n _
  rfl
/-- Without deletion each of the receiver's nodes is told, or the sender's in its place. -/
theorem keeps_each {R : List (Bool × List UInt8)} {a b : List Nd} {l : List Fd} (ha : TW a) (hb : TW b) (ht : Told (layV (sentL R a) (shownL b) (guardL R b) false) l) {n : Nd} (hn : n ∈ shownL b) : n ∈ l.map (·.node) ∨ ∃ m ∈ l.map (·.node), m ∈ a ∧ m.path = n.path := by
  rcases told_keeps ht (laid_trees R false ha hb) hb.shown (guard_sub R b) hn with h | ⟨m, h1, h2, h3⟩
  · exact .inl h
  · have hma : m ∈ a := (List.mem_filter.1 (List.mem_filter.1 h2).1).1
    refine .inr ⟨m, h1, hma, cutB_inj ?_⟩
    rw [← nm_cut (ha.rights m hma), ← nm_cut (hb.shown.rights n hn)]
    exact h3
end Go.Proofs.YteoafohebgfjdaaGreatDoor
/-
  mirror.Of.
-/
namespace Go.Proofs.YteoafohebgfjdaaGreatDoor
open Go.RowKit Go.Maps
set_option maxRecDepth 100000

/-- A told node's six cells, at an address. -/
structure FdAt (w : World) (ad : Addr) (f : Fd) : Prop where
  nd : NdAt w ad f.node
  ours : w.cell? ⟨ad.block, ad.off + 5, none⟩ = some (.bool f.ours)
theorem FdAt.below {w w' : World} {B : Nat} {ad : Addr} {f : Fd} (h : FdAt w ad f) (hb : Below B w w') (hB : ad.block < B) : FdAt w' ad f := ⟨h.nd.below hb hB, (hb.cell (p := ⟨ad.block, _, none⟩) hB).trans h.ours⟩
/-- Told nodes that lie at an address, one behind the other, below block B. -/
def RdFd (w : World) (B : Nat) (A : Option Addr) (l : List Fd) : Prop := ∀ k f, l[k]? = some f → ∃ ad : Addr, A = some ad ∧ ad.block < B ∧ FdAt w (ad.add (k * 6)) f
theorem RdFd.step {w w' : World} {A : Option Addr} {l : List Fd} (h : RdFd w w.heap.size A l) (hb : Below w.heap.size w w') : RdFd w' w'.heap.size A l := fun k f hf => by
  obtain ⟨ad, e, hlt, h0⟩ := h k f hf
  exact ⟨ad, e, Nat.lt_of_lt_of_le hlt hb.size, h0.below hb (by rw [add_block]; exact hlt)⟩
theorem RdFd.own {w : World} {B n c : Nat} {A : Option Addr} {l : List Fd} (h : w.ownsRow B 53 6 (.slice A n c) n (cellsFd l)) : RdFd w w.heap.size A l := by
  intro k r hk
  have q := cellsFd_get l k r hk
  rcases h.2 with ⟨hv, h0⟩ | ⟨g, cap, cur, hv, _, hg, _⟩
  · have h1 := h.1
    rw [h0] at h1
    have : cellsFd l = [] := List.length_eq_zero_iff.1 (by omega)
    have q1 := q 0 _ rfl
    rw [this] at q1; simp at q1
  · injection hv with hA
    subst hA
    have hc := fun j v (hv : r.cells[j]? = some v) => h.cells (g := g) rfl _ v (q j v hv)
    refine ⟨_, rfl, (Array.getElem?_eq_some_iff.1 hg).1, ?_⟩
    have h0 := hc 0 _ rfl
    have h1 := hc 1 _ rfl
    have h2 := hc 2 _ rfl
    have h3 := hc 3 _ rfl
    have h4 := hc 4 _ rfl
    have h5 := hc 5 _ rfl
    rw [addN_off] at h0 h1 h2 h3 h4 h5 ⊢
    exact ⟨⟨h0, h1, h2, h3, h4⟩, h5⟩

set_option maxHeartbeats 16000000 in
theorem mirOf_any {LL : Bd} {V : Ns → Pl} (A : Option Addr) (S : List Nd) (c : Nat) (B : Option Addr) (D : List Nd) (d : Nat) (C : Option Addr) (R : List (Bool × ByteArray)) (f : Nat) (del : Bool) (w : World)
    (hA : RdN w w.heap.size A S) (hS : FewN S) (hSl : (S.length : Int) ≤ 1000) (hB : RdN w w.heap.size B D) (hD : FewN D) (hDl : (D.length : Int) ≤ 1000) (hR : RdR w w.heap.size C R) (hf : Few R) (hl : (R.length : Int) ≤ 1000000)
    (hL : LL.names.length < maxLen) (h0 : [] ∈ LL.paths) (hok : ∀ n, n ∈ S ∨ n ∈ D → NdOk LL n) (hV : V = layV (sentL (rulesL R) S) (shownL D) (guardL (rulesL R) D) del)
    (hfew : LL.paths.length ≤ 1000) (hdeep : ∀ P ∈ LL.paths, P.length ≤ 16) (hsz : FewV LL V) :
    Calls Tryz.prog 13 #[.slice A S.length c, .slice B D.length d, .slice C R.length f, .bool del] w fun e w' => ∃ v l, e = .returned v ∧ Told V l ∧ l.length ≤ 1000 ∧ NI w v (l.map (·.node)) w' := by
  obtain ⟨i0, hi, hz0, hz1, hz2⟩ := info_parts info_node
  have HLay := hide (fun W (hb : Below w.heap.size w W) => lay_any LL A S c B D d C R f del W (hA.step hb) hS hSl (hB.step hb) hD hDl (hR.step hb) hf hl hL h0 hok)
  rw [← hV] at HLay
  have HWalk := hide (fun (W : World) (n : Nat) (AA : Where) (hp : PT W n LL AA V) (q : Nat × Nat) (hq : AA [] = some q) => walk_any hp (Nat.le_trans hfew (by decide)) hdeep hsz q hq)
  clear hA hS hB hD hR hf hL h0 hok hV hdeep hsz
  go_enter Tryz.func13, Tryz.ntmps13
  go_wp2_with fail
  refine (HLay.out w (Below.refl _ _)).mono ?_
  rintro e w1 ⟨AA, q, rfl, hq, hp, hb1⟩
  have HW1 := hide (HWalk.out w1 _ AA hp q hq)
  clear HLay HWalk hp hq
  go_wp2_with fail
  refine HW1.out.mono ?_
  rintro e w2 ⟨v, l, rfl, hT, hll, hb2, hown⟩
  obtain ⟨E, cE, rfl⟩ := ownsRow_slice hown
  have HT := hide hT
  have HB := hide (hb1.trans (hb2.mono hb1.size))
  have HR := hide (RdFd.own hown)
  clear HW1 hT hb1 hb2 hown
  go_wp2_with fail
  obtain ⟨W0, rfl⟩ : ∃ W0, W0 = w2 := ⟨_, rfl⟩
  go_loopg [9, 19] l.length (fun gk sv iv wr => ∃ (j : Nat) (X : Option Addr) (x : Nat) (s : List Nd), sv = .slice X s.length x ∧ iv = .int .i64 j ∧ j + gk = l.length ∧ Hid (s = (l.take j).map (·.node)) ∧ Hid (NI W0 (.slice X s.length x) s wr))
  case atStart => exact ⟨0, none, 0, [], rfl, rfl, by omega, hide rfl, hide ⟨Below.refl _ _, World.ownsRow_nil _ _ _ _⟩⟩
  case round =>
    obtain ⟨j, X, x, s, rfl, rfl, hjg, HS, HN⟩ := hrel
    cases gk with
    | zero =>
      have hfin : NI w (.slice X s.length x) (l.map (·.node)) wr := by
        have e : l.map (·.node) = s := by rw [HS.out, List.take_of_length_le (by omega)]
        rw [e]
        exact ⟨HB.out.trans (HN.out.below.mono HB.out.size), ownsRow_lowerN HN.out.own HB.out.size⟩
      have HFin := hide hfin
      obtain rfl : j = l.length := by omega
      clear hfin
      go_wp2_with fail
      exact bodyPost_ret (results_tmp rfl _ _ _) rfl ⟨.slice X s.length x, l, rfl, HT.out, Nat.le_trans hll hfew, HFin.out⟩
    | succ g1 =>
      have hji : (j : Int) < l.length := by omega
      obtain ⟨fd, hn⟩ : ∃ n, l[j]? = some n := ⟨_, List.getElem?_eq_getElem (by omega)⟩
      have hsl : s.length = j := by rw [HS.out]; simp; omega
      obtain ⟨ad, rfl, hlt, hnd⟩ := (HR.out.step HN.out.below) j fd hn
      have HS2 := hide (show s ++ [fd.node] = (l.take (j + 1)).map (·.node) by rw [HS.out, List.take_add_one, hn]; simp)
      have hjw : IntKind.i64.wrap ((j : Int) + 1) = ((j + 1 : Nat) : Int) := by rw [IntWalk.i64_in _ (by omega)]; rfl
      obtain ⟨⟨c0, c1, c2, c3, c4⟩, c5⟩ := hnd
      clear hn hlt
      obtain ⟨⟨path, kind, mode, time, data⟩, ours⟩ := fd
      have hO4 := (HN.out.own.alloc (.cells #[.string path, .int .i64 kind, .int .i64 mode, .int .i64 time, .string data, .bool ours] 53)).alloc (.cells (⟨path, kind, mode, time, data⟩ : Nd).cells 36)
      have hB3 := HN.out.below.alloc HN.out.below.size (.cells #[.string path, .int .i64 kind, .int .i64 mode, .int .i64 time, .string data, .bool ours] 53)
      have hB4 := hB3.alloc hB3.size (.cells (⟨path, kind, mode, time, data⟩ : Nd).cells 36)
      have hRn := RdN.one (wr.alloc (.cells #[.string path, .int .i64 kind, .int .i64 mode, .int .i64 time, .string data, .bool ours] 53)) ⟨path, kind, mode, time, data⟩ 36
      have hs1 : ∀ o : Obj, (wr.alloc o).heap.size = wr.heap.size + 1 := fun o => by simp
      rw [hs1 (.cells #[.string path, .int .i64 kind, .int .i64 mode, .int .i64 time, .string data, .bool ours] 53)] at hRn
      have hsj : s.length ≤ 100000 := by omega
      have hsz := hB4.size
      go_wp2_with (at_builtin; go_loud (refine wpList_append_nodes rfl _ _ 22 rfl W0.heap.size 36 i0 Tryz.underlying22 hi hz0 hz1 hz2 _ _ _ rfl hO4 (some ⟨wr.heap.size + 1, 0, none⟩) _ 1 _ [⟨path, kind, mode, time, data⟩] rfl rfl hRn (by unfold maxLen; omega) (by omega) hsz ?_))
      intro v5 w5 hO5 hg5
      rw [hsl] at hO4
      have hB5 := hB4.grown hg5 hB4.size (fun r e => (hO4.lt r e).1)
      obtain ⟨Y, y, rfl⟩ := ownsRow_slice hO5
      have HN6 := hide (show NI W0 (.slice Y (s ++ [(⟨path, kind, mode, time, data⟩ : Nd)]).length y) (s ++ [⟨path, kind, mode, time, data⟩]) w5 from ⟨hB5, by rw [cellsN_app, List.length_append, hsl]; exact hO5⟩)
      have hlen6 : (s ++ [(⟨path, kind, mode, time, data⟩ : Nd)]).length = j + 1 := by simp; omega
      clear hO4 hRn hB3 hB4 hO5 hg5 hB5 hsz c0 c1 c2 c3 c4 c5
      go_wp2_with fail
      go_roundg g1
      case rel => exact ⟨j + 1, Y, y, s ++ [⟨path, kind, mode, time, data⟩], by rw [hlen6], rfl, by omega, HS2, HN6⟩
      case measure => omega

set_option maxHeartbeats 4000000 in
theorem mirLeft_any {LL : Bd} {V : Ns → Pl} (B : Option Addr) (D : List Nd) (d : Nat) (C : Option Addr) (R : List (Bool × ByteArray)) (f : Nat) (del : Bool) (p : ByteArray) (w : World)
    (hB : RdN w w.heap.size B D) (hD : FewN D) (hDl : (D.length : Int) ≤ 1000) (hR : RdR w w.heap.size C R) (hf : Few R) (hl : (R.length : Int) ≤ 1000000)
    (hL : LL.names.length < maxLen) (h0 : [] ∈ LL.paths) (hok : ∀ n, n ∈ D → NdOk LL n) (hV : V = layV (sentL (rulesL R) []) (shownL D) (guardL (rulesL R) D) del)
    (hfew : LL.paths.length ≤ 1000) (hdeep : ∀ P ∈ LL.paths, P.length ≤ 16) (hsz : FewV LL V) (hp : (p.size : Int) ≤ 1000000) :
    Calls Tryz.prog 9 #[.slice B D.length d, .slice C R.length f, .bool del, .string p] w fun e w' => ∃ v m, e = .returned v ∧ NI w v m w' ∧ ((toL p = [] ∧ m = []) ∨ (toL p ≠ [] ∧ ∃ l, Told V l ∧ m = (l.map (·.node)).filter fun n => okB n.path p)) := by
  have HO := hide (mirOf_any none [] 0 B D d C R f del w (fun k n h => by simp at h) (fun k n h => by simp at h) (by simp) hB hD hDl hR hf hl hL h0 (fun n h => hok n (by simpa using h)) hV hfew hdeep hsz)
  clear hB hD hR hf hL h0 hok hV hdeep hsz
  go_enter Tryz.func9, Tryz.ntmps9
  cases he : p.toList.isEmpty with
  | true =>
    have HE := hide (show toL p = [] from mt_iff.1 he)
    go_wp2_with fail
    exact bodyPost_ret (results_tmp rfl _ _ _) rfl ⟨.slice none 0 0, [], rfl, ⟨Below.refl _ _, World.ownsRow_nil _ _ _ _⟩, .inl ⟨HE.out, rfl⟩⟩
  | false =>
    have HE := hide (show toL p ≠ [] from fun h => by rw [mt_iff.2 h] at he; cases he)
    go_wp2_with fail
    refine HO.out.mono ?_
    rintro e w1 ⟨v, l, rfl, hT, hll, hN⟩
    have hfN := hT.fewN
    have hlen : (l.map (·.node)).length ≤ 1000 := by rw [List.length_map]; exact hll
    obtain ⟨m, hm⟩ : ∃ m, m = l.map (·.node) := ⟨_, rfl⟩
    rw [← hm] at hN hfN hlen
    obtain ⟨X, x, rfl⟩ := ownsRow_slice hN.own
    have HS := hide (sub_any X m x p w1 (RdN.own hN.own) hfN (by omega) hp)
    have HT := hide (And.intro hT hm)
    have HB := hide hN.below
    clear HO hT hN hm hfN hlen
    go_wp2_with fail
    refine HS.out.mono ?_
    rintro e w2 ⟨v, rfl, hN⟩
    have HN := hide (show NI w v (m.filter fun n => okB n.path p) w2 from ⟨HB.out.trans (hN.below.mono HB.out.size), ownsRow_lowerN hN.own HB.out.size⟩)
    clear hN
    go_wp2_with fail
    exact bodyPost_ret (results_tmp rfl _ _ _) rfl ⟨v, _, rfl, HN.out, .inr ⟨HE.out, l, HT.out.1, by rw [HT.out.2]⟩⟩
end Go.Proofs.YteoafohebgfjdaaGreatDoor
