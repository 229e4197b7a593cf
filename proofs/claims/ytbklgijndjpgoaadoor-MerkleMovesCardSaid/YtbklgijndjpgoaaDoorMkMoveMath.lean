/-
  What is moved is alike, whatever its modes become (plain).
-/
import Derived.Test.YtbklgijndjpgoaaDoorMkMove
import Derived.Test.YtbklgijndjpgoaaDoorMkAlike
namespace Go.Proofs.YtbklgijndjpgoaaDoor
open Go.RowKit
set_option maxRecDepth 100000

def mvN (p q : ByteArray) (n : Nd) : Nd := ⟨movedV n.path p q, n.kind, n.mode, n.time, n.data⟩
/-- A node with another mode, unless it is of the third kind. -/
def setM (k : Int) (n : Nd) : Nd := if n.kind = 3 then n else ⟨n.path, n.kind, k, n.time, n.data⟩
theorem setM_path (k : Int) (n : Nd) : (setM k n).path = n.path := by unfold setM; split <;> rfl
theorem setM_kind (k : Int) (n : Nd) : (setM k n).kind = n.kind := by unfold setM; split <;> rfl
theorem setM_data (k : Int) (n : Nd) : (setM k n).data = n.data := by unfold setM; split <;> rfl

theorem put_spec {p q : ByteArray} : ∀ (sub r : List Nd) {o : List Nd}, putAll p q r sub = some o → (∀ n ∈ sub, moveOk n.path p q = true) ∧ (∀ m, m ∈ o ↔ m ∈ r ∨ ∃ n ∈ sub, m = mvN p q n) ∧ o.length = r.length + sub.length
  | [], r, o, h => by
    unfold putAll at h
    injection h with h
    subst h
    exact ⟨by simp, by simp, by simp⟩
  | n :: t, r, o, h => by
    unfold putAll at h
    split at h
    · rename_i hk
      obtain ⟨h1, h2, h3⟩ := put_spec t _ h
      refine ⟨?_, fun m => ?_, ?_⟩
      · intro x hx
        rcases List.mem_cons.1 hx with rfl | hx
        · exact hk
        · exact h1 x hx
      · rw [h2, insL_mem]
        constructor
        · rintro ((rfl | h) | ⟨x, hx, e⟩)
          · exact .inr ⟨n, List.mem_cons_self, rfl⟩
          · exact .inl h
          · exact .inr ⟨x, List.mem_cons_of_mem _ hx, e⟩
        · rintro (h | ⟨x, hx, e⟩)
          · exact .inl (.inr h)
          · rcases List.mem_cons.1 hx with rfl | hx
            · exact .inl (.inl e)
            · exact .inr ⟨x, hx, e⟩
      · rw [h3, ins_len, List.length_cons]; omega
    · cases h
theorem put_sorted {p q : ByteArray} : ∀ (sub r : List Nd) {o : List Nd}, Sorted r → (∀ m ∈ r, ∀ n ∈ sub, m.path ≠ (mvN p q n).path) → (sub.Pairwise fun a b => (mvN p q a).path ≠ (mvN p q b).path) → putAll p q r sub = some o → Sorted o
  | [], r, o, hs, _, _, h => by
    unfold putAll at h
    injection h with h
    rw [← h]; exact hs
  | n :: t, r, o, hs, h1, h2, h => by
    unfold putAll at h
    obtain ⟨h3, h4⟩ := List.pairwise_cons.1 h2
    split at h
    · refine put_sorted t _ (ins_sorted hs fun m hm => h1 m hm n List.mem_cons_self) ?_ h4 h
      intro m hm x hx
      rcases insL_mem.1 hm with rfl | hm
      · exact h3 x hx
      · exact h1 m hm x (List.mem_cons_of_mem _ hx)
    · cases h
/-- The names of what is moved. -/
theorem mv_cut {p q : ByteArray} {n : Nd} (hw : withinB (toL n.path) (toL p) = true) (hk : moveOk n.path p q = true) : ∃ D, cutB n.path = cutB p ++ D ∧ cutB (mvN p q n).path = cutB q ++ D ∧ rightB (mvN p q n).path ∧ rightB q := by
  have hok : okB n.path p = true := by rw [okB_eq]; exact hw
  have hwl := (withinB_iff _ _).1 hw
  have hd := cut_drop hwl
  have hm := moved_cut n.path p q hok
  have hv : (mvN p q n).path = movedB n.path p q := by show movedV _ _ _ = _; unfold movedV; rw [if_pos hk]
  have hk2 := hk
  unfold moveOk at hk2
  rw [Bool.and_eq_true, Bool.and_eq_true] at hk2
  have hr : rightB (mvN p q n).path := by rw [hv]; exact hk2.2
  refine ⟨(cutB n.path).drop (cutB p).length, hd, ?_, hr, hk2.1.2⟩
  rw [hv]
  unfold cutB
  rw [hm]
  exact cut_glue letter_slash _ (movedL_names hwl.1 hk2.1.2)
theorem in_of_cut {p q : ByteArray} {D : List (List UInt8)} (hp : rightB p) (hq : rightB q) (h : cutB p = cutB q ++ D) : withinB (toL p) (toL q) = true := by
  rw [withinB_iff, within_cut]
  exact ⟨hp, hq, ⟨D, h.symm⟩⟩
theorem unders_set (k : Int) (q : ByteArray) (o : List Nd) : undersL q (o.map (setM k)) = undersL q o := by
  unfold undersL
  rw [List.filter_map, List.map_map]
  have e1 : (under q ∘ setM k) = under q := by funext n; show under q (setM k n) = under q n; unfold under; rw [setM_path]
  have e2 : (seen q ∘ setM k) = seen q := by funext n; show seen q (setM k n) = seen q n; unfold seen; rw [setM_path, setM_kind, setM_data]
  rw [e1, e2]
theorem under_in {P : ByteArray} {n : Nd} (h : under P n = true) : withinB (toL n.path) (toL P) = true := by
  obtain ⟨h1, h2, D, _, h4⟩ := (under_iff P n).1 h
  exact in_of_cut h1 h2 h4
/-- What is moved: the moved list, plain. -/
structure MvR (t : List Nd) (p q : ByteArray) (o : List Nd) : Prop where
  sorted : Sorted o
  mem : ∀ m, m ∈ o ↔ (m ∈ t ∧ withinB (toL m.path) (toL p) = false ∧ withinB (toL m.path) (toL q) = false) ∨ ∃ n ∈ t, withinB (toL n.path) (toL p) = true ∧ m = mvN p q n
  ok : ∀ n ∈ t, withinB (toL n.path) (toL p) = true → moveOk n.path p q = true
  len : o.length ≤ t.length
theorem MvR.of {t o : List Nd} {p q : ByteArray} (ht : WF t) (h : putAll p q (sideL q false (sideL p false t)) (sideL p true t) = some o) : MvR t p q o := by
  obtain ⟨h1, h2, h3⟩ := put_spec _ _ h
  have hsub : ∀ n, n ∈ sideL p true t ↔ n ∈ t ∧ withinB (toL n.path) (toL p) = true := fun n => by unfold sideL; rw [List.mem_filter]; simp
  have hrest : ∀ n, n ∈ sideL q false (sideL p false t) ↔ n ∈ t ∧ withinB (toL n.path) (toL p) = false ∧ withinB (toL n.path) (toL q) = false := fun n => by unfold sideL; rw [List.mem_filter, List.mem_filter]; simp [and_assoc]
  have hok : ∀ n ∈ t, withinB (toL n.path) (toL p) = true → moveOk n.path p q = true := fun n hn hw => h1 n ((hsub n).2 ⟨hn, hw⟩)
  refine ⟨?_, ?_, hok, ?_⟩
  · refine put_sorted _ _ ((ht.sorted.filter _).filter _) ?_ ?_ h
    · intro m hm n hn e
      obtain ⟨_, _, hm3⟩ := (hrest m).1 hm
      obtain ⟨hn1, hn2⟩ := (hsub n).1 hn
      obtain ⟨D, _, hc, hr, hq⟩ := mv_cut hn2 (hok n hn1 hn2)
      have := in_of_cut hr hq hc
      rw [← e, hm3] at this
      cases this
    · refine (ht.mt.apart.filter _).imp_of_mem fun ha hb hab e => hab ?_
      obtain ⟨a1, a2⟩ := (hsub _).1 ha
      obtain ⟨b1, b2⟩ := (hsub _).1 hb
      obtain ⟨D, c1, c2, _⟩ := mv_cut a2 (hok _ a1 a2)
      obtain ⟨E, d1, d2, _⟩ := mv_cut b2 (hok _ b1 b2)
      rw [e, d2] at c2
      have := List.append_cancel_left c2
      exact cutB_inj (by rw [c1, d1, this])
  · intro m
    rw [h2, hrest]
    constructor
    · rintro (h | ⟨n, hn, e⟩)
      · exact .inl h
      · exact .inr ⟨n, ((hsub n).1 hn).1, ((hsub n).1 hn).2, e⟩
    · rintro (h | ⟨n, hn, hw, e⟩)
      · exact .inl h
      · exact .inr ⟨n, (hsub n).2 ⟨hn, hw⟩, e⟩
  · have e1 := side_len q false (sideL p false t)
    have e2 : (sideL p false t).length + (sideL p true t).length = t.length := by
      unfold sideL
      clear h h1 h2 h3 hsub hrest hok ht e1
      induction t with
      | nil => rfl
      | cons n t ih =>
        rw [List.filter_cons, List.filter_cons]
        cases withinB (toL n.path) (toL p) <;> simp <;> simp at ih <;> omega
    omega
theorem MvR.unders {t o : List Nd} {p q : ByteArray} (ht : WF t) (h : MvR t p q o) (hq : rightB q) (hp : rightB p) : undersL p t = undersL q o := by
  refine sorted_ext (unders_sorted ht.sorted p) (unders_sorted h.sorted q) fun u => ?_
  have key : ∀ n ∈ t, withinB (toL n.path) (toL p) = true → under p n = true → under q (mvN p q n) = true ∧ seen q (mvN p q n) = seen p n := fun n hn hw hu => by
    obtain ⟨D, c1, c2, c3, _⟩ := mv_cut hw (h.ok n hn hw)
    have hD : D ≠ [] := by
      rintro rfl
      obtain ⟨_, _, E, e1, e2⟩ := (under_iff p n).1 hu
      rw [c1] at e2
      exact e1 (List.append_cancel_left e2).symm
    refine ⟨(under_iff q _).2 ⟨c3, hq, D, hD, c2⟩, ?_⟩
    have s1 := (seen_cut (ht.rights n hn) hp hD c1).1
    have s2 := (seen_cut c3 hq hD c2).1
    have s3 : (seen q (mvN p q n)).path = (seen p n).path := cutB_inj (by rw [s1, s2])
    show (⟨(seen q (mvN p q n)).path, n.kind, 0, 0, n.data⟩ : Nd) = ⟨(seen p n).path, n.kind, 0, 0, n.data⟩
    rw [s3]
  unfold undersL
  rw [List.mem_map, List.mem_map]
  constructor
  · rintro ⟨n, hn, rfl⟩
    obtain ⟨hn, hu⟩ := List.mem_filter.1 hn
    obtain ⟨k1, k2⟩ := key n hn (under_in hu) hu
    exact ⟨mvN p q n, List.mem_filter.2 ⟨(h.mem _).2 (.inr ⟨n, hn, under_in hu, rfl⟩), k1⟩, k2⟩
  · rintro ⟨m, hm, rfl⟩
    obtain ⟨hm, hu⟩ := List.mem_filter.1 hm
    rcases (h.mem m).1 hm with ⟨_, _, h3⟩ | ⟨n, hn, hw, rfl⟩
    · rw [under_in hu] at h3; cases h3
    · have hun : under p n = true := by
        obtain ⟨D, c1, c2, c3, _⟩ := mv_cut hw (h.ok n hn hw)
        obtain ⟨_, _, E, e1, e2⟩ := (under_iff q _).1 hu
        rw [c2] at e2
        have := List.append_cancel_left e2
        exact (under_iff p n).2 ⟨ht.rights n hn, hp, D, by rw [this]; exact e1, c1⟩
      exact ⟨n, List.mem_filter.2 ⟨hn, hun⟩, (key n hn hw hun).2.symm⟩
theorem MvR.mt {t o : List Nd} {p q : ByteArray} (k : Int) (ht : WF t) (h : MvR t p q o) (hs : ∀ n ∈ t, n.path.size ≤ 200) (hq : q.size ≤ 200) (hqn : q.toList.isEmpty = false) : MT (o.map (setM k)) := by
  have hall : ∀ (P : Nd → Prop), (∀ n ∈ t, P n) → (∀ n ∈ t, withinB (toL n.path) (toL p) = true → P (mvN p q n)) → (∀ n, P n → P (setM k n)) → ∀ n ∈ o.map (setM k), P n := fun P h1 h2 h3 n hn => by
    obtain ⟨m, hm, rfl⟩ := List.mem_map.1 hn
    refine h3 m ?_
    rcases (h.mem m).1 hm with ⟨h4, _⟩ | ⟨x, h4, h5, rfl⟩
    · exact h1 m h4
    · exact h2 x h4 h5
  refine ⟨?_, ?_, ?_, ?_, ?_, ?_⟩
  · have := h.len
    have := ht.mt.len
    rw [List.length_map]; omega
  · refine hall (fun n => n.path.size ≤ 600) ht.mt.path (fun n hn _ => ?_) (fun n hn => by rw [setM_path]; exact hn)
    have := moved_size' n.path p q
    have := hs n hn
    show (movedV n.path p q).size ≤ 600
    omega
  · exact hall (fun n => n.data.size ≤ 1000000) ht.mt.data (fun n hn _ => ht.mt.data n hn) (fun n hn => by rw [setM_data]; exact hn)
  · exact hall (fun n => 1 ≤ n.kind ∧ n.kind ≤ 3) ht.mt.kind (fun n hn _ => ht.mt.kind n hn) (fun n hn => by rw [setM_kind]; exact hn)
  · rw [List.pairwise_map]
    refine h.sorted.imp fun {a b} hab e => ?_
    rw [setM_path, setM_path] at e
    have h0 : cmpB a b = 0 := (cmpL_zero _ _).2 (by rw [e])
    omega
  · refine hall (fun n => n.path.toList.isEmpty = false) ht.mt.named (fun n hn hw => ?_) (fun n hn => by rw [setM_path]; exact hn)
    obtain ⟨D, _, c2, _, _⟩ := mv_cut hw (h.ok n hn hw)
    cases he : (mvN p q n).path.toList.isEmpty with
    | false => rfl
    | true =>
      have e1 := (empty_iff _).1 he
      rw [c2] at e1
      have e2 : cutB q = [] := (List.append_eq_nil_iff.1 e1).1
      have := (empty_iff q).2 e2
      rw [hqn] at this
      cases this
theorem MvR.rights {t o : List Nd} {p q : ByteArray} (k : Int) (ht : WF t) (h : MvR t p q o) : Rights (o.map (setM k)) := fun n hn => by
  obtain ⟨m, hm, rfl⟩ := List.mem_map.1 hn
  rw [setM_path]
  rcases (h.mem m).1 hm with ⟨h4, _⟩ | ⟨x, h4, h5, rfl⟩
  · exact ht.rights m h4
  · obtain ⟨_, _, _, c3, _⟩ := mv_cut h5 (h.ok x h4 h5)
    exact c3
/-- What is moved is alike, and has one print. -/
theorem moves_like {t o : List Nd} {p q : ByteArray} (k : Int) (ht : WF t) (hs : ∀ n ∈ t, n.path.size ≤ 200) (hq : q.size ≤ 200) (hm : Moves t p q o) :
    MT (o.map (setM k)) ∧ likeL t p (o.map (setM k)) q = true ∧ (prtL p t).2 = true ∧ prtL p t = prtL q (o.map (setM k)) := by
  have h := MvR.of ht hm.all
  have hM := h.mt k ht hs hq hm.fq
  have hrp : rightB p := hm.rp
  have hrq : rightB q := hm.rq
  have hu := h.unders ht hrq hrp
  have hR := h.rights k ht
  rw [← unders_set k q o] at hu
  obtain ⟨i, n, h1, h2, _⟩ := hm.some
  have hnt := List.mem_of_getElem? h2
  have hnp : n.path = p := by
    rcases at_cases p t with h3 | ⟨j, m, h3, h4, h5⟩
    · omega
    · rw [h1] at h3
      have hij : i = j := by omega
      subst hij
      rw [h2] at h4
      injection h4 with h4
      rw [h4]; exact hit_path h5
  have t1 : topL p t = (n, true) := by
    unfold topL
    rw [hm.fp, if_neg (by decide)]
    unfold findL
    rw [if_neg (by omega), h1, Int.toNat_natCast, List.getD_eq_getElem?_getD, h2]; rfl
  have hw : withinB (toL n.path) (toL p) = true := in_of_cut (D := []) (ht.rights n hnt) hrp (by rw [hnp]; simp)
  have hmo := (h.mem _).2 (.inr ⟨n, hnt, hw, rfl⟩)
  have hmo' : setM k (mvN p q n) ∈ o.map (setM k) := List.mem_map_of_mem hmo
  have hmq : (setM k (mvN p q n)).path = q := by
    rw [setM_path]
    obtain ⟨D, c1, c2, _⟩ := mv_cut hw (h.ok n hnt hw)
    rw [hnp] at c1
    have hD : D = [] := by simpa using c1
    exact cutB_inj (by rw [c2, hD]; simp)
  obtain ⟨j, h3, h4⟩ := at_mem hM hmo'
  rw [hmq] at h3
  have t2 : topL q (o.map (setM k)) = (setM k (mvN p q n), true) := by
    unfold topL
    rw [hm.fq, if_neg (by decide)]
    unfold findL
    rw [if_neg (by omega), h3, Int.toNat_natCast, List.getD_eq_getElem?_getD, h4]; rfl
  have hk : (setM k (mvN p q n)).kind = n.kind := setM_kind _ _
  have hd : (setM k (mvN p q n)).data = n.data := setM_data _ _
  refine ⟨hM, ?_, ?_, ?_⟩
  · rw [like_iff, t1, t2]
    exact ⟨rfl, rfl, hk.symm, hd.symm, hu⟩
  · unfold prtL; rw [t1]; rfl
  · unfold prtL
    rw [t1, t2, if_pos rfl, if_pos rfl]
    unfold ndT
    rw [hk, hd, hmq, hnp, dirT_rel ht.rights hrp, dirT_rel hR hrq, hu]
end Go.Proofs.YtbklgijndjpgoaaDoor
