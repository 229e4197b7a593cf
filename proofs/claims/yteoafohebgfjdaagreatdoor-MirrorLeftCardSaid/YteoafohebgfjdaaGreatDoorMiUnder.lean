/-
  mirror.walk's inner function, which calls itself: what is told beneath a place.
-/
import Derived.Test.YteoafohebgfjdaaGreatDoorAutoMiOurs
import Derived.Test.YteoafohebgfjdaaGreatDoorAutoRoundRegion
import Derived.Maps.RangeWalk
namespace Go.Proofs.YteoafohebgfjdaaGreatDoor
open Go.RowKit Go.Maps
set_option maxRecDepth 100000

theorem ranges_same {w w' : World} {P : Program} {k : TypeId} {R : Value → Option (DataW Value × List MemPlace)} {b r n : Nat} {D : DataW Value} {left : Lit → Bool} {cnt : Nat} (h : w.ranges P k R b r n D left cnt) (hb : w'.heap[b]? = w.heap[b]?) (hr : w'.heap[r]? = w.heap[r]?) : w'.ranges P k R b r n D left cnt := by
  obtain ⟨es, clock, since, seen, c0, h1, h2, h3, h4, h5, rest⟩ := h
  exact ⟨es, clock, since, seen, c0, hb.trans h1, h2, h3, h4, hr.trans h5, rest⟩
theorem ranges_iter {w : World} {P : Program} {k : TypeId} {R : Value → Option (DataW Value × List MemPlace)} {b r n : Nat} {D : DataW Value} {left : Lit → Bool} {cnt : Nat} (h : w.ranges P k R b r n D left cnt) : ∃ o, w.heap[r]? = some o ∧ ∀ c t f, o ≠ Obj.cells c t f := by
  obtain ⟨es, clock, since, seen, c0, h1, h2, h3, h4, h5, rest⟩ := h
  exact ⟨_, h5, fun c t f e => by cases e⟩
/-- What is no row of cells stays. -/
def Keep (W W' : World) : Prop := ∀ (k : Nat) (o : Obj), W.heap[k]? = some o → (∀ c t f, o ≠ Obj.cells c t f) → W'.heap[k]? = some o
theorem Keep.refl (W : World) : Keep W W := fun _ _ h _ => h
theorem Keep.trans {W W' W'' : World} (h : Keep W W') (k : Keep W' W'') : Keep W W'' := fun i o h1 h2 => k i o (h i o h1 h2) h2
theorem Keep.below {W W' : World} (h : Below W.heap.size W W') : Keep W W' := fun k _ h1 _ => (h.block k (Array.getElem?_eq_some_iff.1 h1).1).trans h1
/-- What was told is told of unlike places that may come up. -/
structure KsOk (LL : Bd) (Ks : List (Ns × Bool)) : Prop where
  apart : Ks.Pairwise fun a b => a.1 ≠ b.1
  mem : ∀ k ∈ Ks, k.1 ∈ LL.paths
theorem KsOk.few {LL : Bd} {Ks : List (Ns × Bool)} (h : KsOk LL Ks) : Ks.length ≤ LL.paths.length := by
  have := apart_few (Ks.map (·.1)) LL.paths (List.pairwise_map.2 h.apart) fun x hx => by
    obtain ⟨k, hk, rfl⟩ := List.mem_map.1 hx
    exact h.mem k hk
  simpa using this
theorem key_str {key : Value} {kl : Lit} (h : keyOf Tryz.prog 9 key = some kl) : ∃ s : ByteArray, key = .string s ∧ kl = keyS s := by
  have hk := Tryz.underlying9
  cases key <;> simp [keyOf, hk, mapKey] at h
  obtain ⟨_, rfl⟩ := h
  exact ⟨_, rfl, rfl⟩
/-- The names that have come. -/
def passed (left : Lit → Bool) (x : List UInt8) : Prop := left (keyS (ofL x)) = false
theorem KS.congr {V : Ns → Pl} {th : Bool} {P : Ns} {pass pass' : List UInt8 → Prop} {K : List (Ns × Bool)} (h : KS V th P pass K) (e : ∀ x, pass' x ↔ pass x) : KS V th P pass' K :=
  ⟨fun k => by rw [h.mem k]; exact ⟨fun ⟨x, Q, h1, h2⟩ => ⟨x, Q, (e x).2 h1, h2⟩, fun ⟨x, Q, h1, h2⟩ => ⟨x, Q, (e x).1 h1, h2⟩⟩, h.apart⟩
theorem passed_step (left : Lit → Bool) (s : ByteArray) (y : List UInt8) : passed (fun z => left z && !z.sameKey (keyS s)) y ↔ passed left y ∨ y = toL s := by
  unfold passed
  by_cases e : y = toL s
  · subst e
    have e2 : ofL (toL s) = s := toL_inj (by rw [toL_ofL])
    rw [e2]
    simp [keyS, Lit.sameKey]
  · have hne : keyS (ofL y) ≠ keyS s := fun h => e (by rw [← keyS_inj h, toL_ofL])
    show (left (keyS (ofL y)) && !(keyS (ofL y)).sameKey (keyS s)) = false ↔ _
    rw [Maps.sameKey_ne hne]
    simp [e]
theorem ranges_keep {w w' : World} {P : Program} {k : TypeId} {R : Value → Option (DataW Value × List MemPlace)} {b r n : Nat} {D : DataW Value} {left : Lit → Bool} {cnt : Nat} (h : w.ranges P k R b r n D left cnt) (hk : Keep w w') : w'.ranges P k R b r n D left cnt := by
  obtain ⟨es, clock, since, seen, c0, h1, h2, h3, h4, h5, rest⟩ := h
  exact ⟨es, clock, since, seen, c0, hk _ _ h1 (fun _ _ _ e => by cases e), h2, h3, h4, hk _ _ h5 (fun _ _ _ e => by cases e), rest⟩
theorem keep_more {w0 W W1 W2 : World} {b n c m : Nat} {e : TypeId} {E : Option Addr} {xs : List Value} {Y : Array Value} {t : TypeId} {f : Nat × Nat} (hE : W.heap[w0.heap.size]? = some (.cells Y t f)) (hown : W.ownsRow b e m (.slice E n c) n xs) (hb : Below W.heap.size W W1) (hg : W1.grownBy W2 (Value.slice E n c).ownBlock) (v : Value) : Keep W (W2.setCell ⟨w0.heap.size, 0, none⟩ v) := fun k o h1 h2 => by
  have hk := (Array.getElem?_eq_some_iff.1 h1).1
  have e1 := (hb.block k hk).trans h1
  have e2 := (hg.block k (Array.getElem?_eq_some_iff.1 e1).1 (fun e => by
    rcases hown.2 with ⟨hv, _⟩ | ⟨g, cap, cur, hv, _, hgg, _⟩
    · rw [hv] at e; cases e
    · rw [hv] at e
      injection e with e
      subst e
      rw [h1] at hgg
      injection hgg with hgg
      exact h2 _ _ _ hgg)).trans e1
  refine (heap_setCell_other W2 _ k _ (fun e => ?_)).trans e2
  simp only at e
  subst e
  rw [hE] at h1
  injection h1 with h1
  exact h2 _ _ _ h1.symm
theorem not_passed {left : Lit → Bool} {s : ByteArray} (h : left (keyS s) = true) : ¬ passed left (toL s) := by
  unfold passed
  rw [show ofL (toL s) = s from toL_inj (by rw [toL_ofL]), h]
  simp
theorem fresh_one {V : Ns → Pl} {th : Bool} {P : Ns} {left : Lit → Bool} {K Ks : List (Ns × Bool)} {s : ByteArray} (h : KS V th P (passed left) K) (hav : ∀ k ∈ Ks, ∀ x Q, k.1 ≠ P ++ x :: Q) (hl : left (keyS s) = true) : ∀ k ∈ Ks ++ K, k.1 ≠ P ++ [toL s] := fun k hk e => by
  rcases List.mem_append.1 hk with hk | hk
  · exact hav k hk _ _ e
  · obtain ⟨y, Q, h1, h2, _⟩ := (h.mem k).1 hk
    rw [h2] at e
    have := List.append_cancel_left e
    injection this with e1 _
    exact not_passed hl (e1 ▸ h1)
theorem fresh_deep {V : Ns → Pl} {th : Bool} {P : Ns} {left : Lit → Bool} {K Ks : List (Ns × Bool)} {s : ByteArray} (h : KS V th P (passed left) K) (hav : ∀ k ∈ Ks, ∀ x Q, k.1 ≠ P ++ x :: Q) (hl : left (keyS s) = true) (t : Bool) : ∀ k ∈ Ks ++ (K ++ [(P ++ [toL s], t)]), ∀ x Q, k.1 ≠ P ++ [toL s] ++ x :: Q := fun k hk x Q e => by
  rw [List.append_assoc] at e
  rcases List.mem_append.1 hk with hk | hk
  · exact hav k hk _ _ e
  · rcases List.mem_append.1 hk with hk | hk
    · obtain ⟨y, Q', h1, h2, _⟩ := (h.mem k).1 hk
      rw [h2] at e
      have := List.append_cancel_left e
      injection this with e1 _
      exact not_passed hl (e1 ▸ h1)
    · rw [List.mem_singleton] at hk
      subst hk
      have := List.append_cancel_left e
      simp at this
theorem KsOk.more {LL : Bd} {Ks K : List (Ns × Bool)} (h : KsOk LL (Ks ++ K)) {R : Ns} (hR : R ∈ LL.paths) (hav : ∀ k ∈ Ks ++ K, k.1 ≠ R) (t : Bool) : KsOk LL (Ks ++ (K ++ [(R, t)])) := by
  rw [← List.append_assoc]
  refine ⟨List.pairwise_append.2 ⟨h.apart, List.pairwise_singleton _ _, fun a ha b hb => ?_⟩, fun k hk => ?_⟩
  · rw [List.mem_singleton] at hb
    subst hb
    exact hav a ha
  · rcases List.mem_append.1 hk with hk | hk
    · exact h.mem k hk
    · rw [List.mem_singleton] at hk
      subst hk
      exact hR
set_option maxHeartbeats 16000000 in
theorem under_any {w0 : World} {B : Nat} {LL : Bd} {A : Where} {V : Ns → Pl} (hp : PT w0 B LL A V) (hfew : LL.paths.length ≤ 100000) (hdeep : ∀ P ∈ LL.paths, P.length ≤ 16) : ∀ (fuel : Nat) (P : Ns) (q : Nat × Nat) (th : Bool) (Ks : List (Ns × Bool)) (W : World),
    A P = some q → 17 ≤ P.length + fuel → WI w0 (Ks.map (emit V)) W → KsOk LL Ks → (∀ k ∈ Ks, ∀ x Q, k.1 ≠ P ++ x :: Q) →
    Calls Tryz.prog 42 #[.pointer (some ⟨q.1, 0, none⟩), .bool th, .pointer (some ⟨w0.heap.size, 0, none⟩), .pointer (some ⟨w0.heap.size + 1, 0, none⟩)] W fun e w' =>
      ∃ K, e = .returned (.tuple #[]) ∧ KS V th P (fun _ => True) K ∧ KsOk LL (Ks ++ K) ∧ WI w0 ((Ks ++ K).map (emit V)) w' ∧ Keep W w' := by
  intro fuel
  induction fuel with
  | zero =>
    intro P q th Ks W hP hf
    have := hdeep P (hp.dom P (by rw [hP]; simp))
    omega
  | succ fuel ih =>
    intro P q th Ks W hP hf hW hK hav
    obtain ⟨i0, hi0, hz0, hz1, hz2⟩ := infoF_parts info_fd
    have HIH := hide ih
    have HP := hide hp
    have hpW := hp.same (fun k hk => hW.below.block k (hp.lt hk).2)
    obtain ⟨D, hown, hD, _⟩ := hpW.map P q hP
    have y12 : W.cell? ⟨q.1, 12, none⟩ = some (.map (some q.2)) := cell_of_row _ _ 12 _ _ _ (hpW.cell _ _ hP)
    have HD := hide hD
    have HW := hide hW
    have HKs := hide (And.intro hK hav)
    have HPf := hide (And.intro hP hf)
    clear ih hp hpW hD hW hK hav hf hP
    go_enter Tryz.func42, Tryz.ntmps42
    go_wp2_with (at_range; refine wpList_range_own _ rfl _ 69 rfl 9 50 (string_keyed Tryz.underlying9) (by kernel_rfl) rawElem q.2 (Maps.size D) D rfl hown ?_; intro w1 hrg0 hg0 hs0)
    go_frame
    have hK0 : KS V th P (passed (has D)) [] := KS.nil fun x hx => by
      have h1 := (HD.out (ofL x)).1
      unfold passed at hx
      rw [hx] at h1
      have h2 : A (P ++ [x]) = none := by
        unfold kidF at h1
        rw [toL_ofL] at h1
        cases e : A (P ++ [x]) with
        | none => rfl
        | some r => rw [e] at h1; cases h1
      rw [HP.out.zero _ h2, nxt_zero]
    have hb1 : Below W.heap.size W w1 := ⟨hg0.os, hg0.tape, hg0.output, hg0.size, fun k hk => hg0.block k hk (by simp)⟩
    have HW1 := hide (show WI w0 ((Ks ++ []).map (emit V)) w1 from by rw [List.append_nil]; exact HW.out.step hb1)
    have HK1 := hide hK0
    have HO1 := hide (show KsOk LL (Ks ++ []) from by rw [List.append_nil]; exact HKs.out.1)
    have HR1 := hide hrg0
    have HKp := hide (Keep.below hb1)
    have HSz := hide (And.intro HW.out.below.size hs0)
    clear hK0 hb1 hrg0 hg0 hs0 hown y12
    go_loopw [7] (fun _ wr => ∃ (left : Lit → Bool) (cnt : Nat) (K : List (Ns × Bool)), Hid (wr.ranges Tryz.prog 9 rawElem q.2 W.heap.size (Maps.size D) D left cnt) ∧ Hid (KS V th P (passed left) K) ∧ Hid (KsOk LL (Ks ++ K)) ∧ Hid (WI w0 ((Ks ++ K).map (emit V)) wr) ∧ Hid (Keep W wr)) (fun _ wr => wr.rangeLeft q.2 W.heap.size)
    case atStart => exact ⟨_, _, [], HR1, HK1, HO1, HW1, HKp⟩
    case round =>
      clear HR1 HK1 HO1 HW1 HKp
      obtain ⟨left, cnt, K, HR, HK, HO, HWr, HKp⟩ := hrel
      have hrg := HR.out
      go_wp2_with (at_next; refine wpList_next_ranges _ rfl _ rfl 9 (string_keyed Tryz.underlying9) rawElem Value.string id (fun key kl h => by obtain ⟨s, e, _⟩ := key_str h; exact ⟨s, e⟩) (fun v y _ => ⟨v, rfl⟩) q.2 W.heap.size (Maps.size D) D left cnt rfl hrg ?_ ?_)
      · intro hc0 hl0
        have HKf := hide (HK.out.congr (pass' := fun _ => True) fun x => by unfold passed; rw [hl0]; simp)
        clear hrg
        go_wp2_with fail
        exact bodyPost_end (results_none rfl _ _ _) rfl ⟨K, rfl, HKf.out, HO.out, HWr.out, HKp.out⟩
      · intro s c kl y yp w2 cnt2 hkey hlk hv hat hrg2 hlt hg2 hs2 hen
        obtain ⟨s', e, rfl⟩ := key_str hkey
        injection e with e
        subst e
        have hcv : kidF A P s = some c := by
          have h1 := (HD.out s).2
          unfold rawElem at hv
          injection hv with hv
          injection hv with hv _
          have h2 : ∀ z, (kidF A P s).getD z = c := fun z => by
            have h3 := (h1 z).symm.trans (hat (.held z))
            rw [← hv] at h3
            injection h3
          cases e : kidF A P s with
          | some v => have := h2 undef; rw [e] at this; rw [← this]; rfl
          | none =>
            have h4 := h2 (.bool true)
            have h5 := h2 (.bool false)
            rw [e] at h4 h5
            rw [← h5] at h4
            cases h4
        obtain ⟨r, hAr, hc⟩ : ∃ r : Nat × Nat, A (P ++ [toL s]) = some r ∧ c = .pointer (some ⟨r.1, 0, none⟩) := by
          unfold kidF at hcv
          cases e : A (P ++ [toL s]) with
          | none => rw [e] at hcv; cases hcv
          | some r => rw [e] at hcv; exact ⟨r, rfl, by injection hcv with hcv; exact hcv.symm⟩
        subst hc
        obtain ⟨io, hio, hio2⟩ := ranges_iter hrg
        have HWr2 := hide (HWr.out.grown hg2 hio hio2 HSz.out.1)
        have HR2 := hide hrg2
        have HKp2 := hide (show Keep W w2 from fun k o h1 h2 => by
          have hk := (Array.getElem?_eq_some_iff.1 h1).1
          have h3 := HKp.out k o h1 h2
          exact (hg2.block k (Array.getElem?_eq_some_iff.1 h3).1 (fun e => by injection e with e; omega)).trans h3)
        have hrow := (HP.out.same (fun k hk => HWr2.out.below.block k (HP.out.lt hk).2)).cell _ _ hAr
        have HOu := hide (ours_any r.1 r.2 (V (P ++ [toL s])) w2 hrow)
        have y11 : w2.cell? ⟨r.1, 11, none⟩ = some (.bool (V (P ++ [toL s])).left) := cell_of_row _ _ 11 _ _ _ hrow
        have HAr := hide hAr
        have HSs := hide (show ofL (toL s) = s from toL_inj (by rw [toL_ofL]))
        have hnx : nxt th (V (P ++ [toL s])) = nxt th (V (P ++ [toL s])) := rfl
        have HV0 := hide (show (V (P ++ [toL s])).left = (V (P ++ [toL s])).left from rfl)
        obtain ⟨lf, hlf⟩ : ∃ lf, lf = (V (P ++ [toL s])).left := ⟨_, rfl⟩
        obtain ⟨ou, hou⟩ : ∃ ou, ou = oursV (V (P ++ [toL s])) := ⟨_, rfl⟩
        rw [← hlf] at y11
        rw [← hou] at HOu
        have hnx : nxt th (V (P ++ [toL s])) = if (!th && ou) = true then some false else if lf = true then some true else none := by unfold nxt; rw [← hou, ← hlf]
        clear hkey hv hat hrg2 hg2 hs2 hio hio2 hrow hAr hcv hrg hlf hou HV0 HWr
        cases th with
        | false =>
          cases ou with
          | true =>
            have HNx := hide (show nxt false (V (P ++ [toL s])) = some false from hnx)
            clear hnx
            clear y11
            go_wp2_with fail
            refine HOu.out.mono ?_
            rintro e wx ⟨rfl, hwx⟩
            obtain rfl : w2 = wx := hwx.symm
            clear hwx hen
            go_upto_region 4 with fail
            obtain ⟨nd, hnd⟩ : ∃ nd, nd = (V (P ++ [toL s])).s := ⟨_, rfl⟩
            have HEm := hide (show emit V (P ++ [toL s], false) = ⟨nd, true⟩ by rw [hnd]; rfl)
            obtain ⟨path, kind, mode, time, data⟩ := nd
            have HS := hide (fun (W' : World) (bb : Below w0.heap.size w0 W') => (⟨(show W'.cell? ⟨r.1, 0, none⟩ = some (.string path) from by have h := cell_of_row _ _ 0 _ _ _ ((HP.out.same (fun k hk => bb.block k (HP.out.lt hk).2)).cell _ _ HAr.out); rw [h]; show some (Value.string (V (P ++ [toL s])).s.path) = _; rw [← hnd]), (show W'.cell? ⟨r.1, 1, none⟩ = some (.int .i64 kind) from by have h := cell_of_row _ _ 1 _ _ _ ((HP.out.same (fun k hk => bb.block k (HP.out.lt hk).2)).cell _ _ HAr.out); rw [h]; show some (Value.int .i64 (V (P ++ [toL s])).s.kind) = _; rw [← hnd]), (show W'.cell? ⟨r.1, 2, none⟩ = some (.int .i64 mode) from by have h := cell_of_row _ _ 2 _ _ _ ((HP.out.same (fun k hk => bb.block k (HP.out.lt hk).2)).cell _ _ HAr.out); rw [h]; show some (Value.int .i64 (V (P ++ [toL s])).s.mode) = _; rw [← hnd]), (show W'.cell? ⟨r.1, 3, none⟩ = some (.int .i64 time) from by have h := cell_of_row _ _ 3 _ _ _ ((HP.out.same (fun k hk => bb.block k (HP.out.lt hk).2)).cell _ _ HAr.out); rw [h]; show some (Value.int .i64 (V (P ++ [toL s])).s.time) = _; rw [← hnd]), (show W'.cell? ⟨r.1, 4, none⟩ = some (.string data) from by have h := cell_of_row _ _ 4 _ _ _ ((HP.out.same (fun k hk => bb.block k (HP.out.lt hk).2)).cell _ _ HAr.out); rw [h]; show some (Value.string (V (P ++ [toL s])).s.data) = _; rw [← hnd])⟩ : W'.cell? ⟨r.1, 0, none⟩ = some (.string path) ∧ W'.cell? ⟨r.1, 1, none⟩ = some (.int .i64 kind) ∧ W'.cell? ⟨r.1, 2, none⟩ = some (.int .i64 mode) ∧ W'.cell? ⟨r.1, 3, none⟩ = some (.int .i64 time) ∧ W'.cell? ⟨r.1, 4, none⟩ = some (.string data)))
            clear hnd
            obtain ⟨E, ce, hE, hown⟩ := HWr2.out.out
            have hbig : ((Ks ++ K).map (emit V)).length ≤ 100000 := by have := HO.out.few; rw [List.length_map]; omega
            have HBk := hide (fun (W' : World) (bb : Below w2.heap.size w2 W') => HWr2.out.below.trans (bb.mono HWr2.out.below.size))
            have HE := hide hE
            obtain ⟨Lo, hLo⟩ : ∃ Lo, Lo = (Ks ++ K).map (emit V) := ⟨_, rfl⟩
            rw [← hLo] at HWr2 hE hown hbig HE
            have HLo := hide hLo
            clear hLo hE
            have hS := HS.out _ (HBk.out _ (Below.refl w2.heap.size w2).drew)
            have hB0 := (Below.refl w2.heap.size w2).drew
            refine wp_region_held (by kernel_rfl) (S := fun W' => W'.cell? ⟨r.1, 0, none⟩ = some (.string path) ∧ W'.cell? ⟨r.1, 1, none⟩ = some (.int .i64 kind) ∧ W'.cell? ⟨r.1, 2, none⟩ = some (.int .i64 mode) ∧ W'.cell? ⟨r.1, 3, none⟩ = some (.int .i64 time) ∧ W'.cell? ⟨r.1, 4, none⟩ = some (.string data)) ?_
            change wpAnyH _ _ _ _ _ _ _ _ (World.drew _)
            refine wpAnyH_take (i := 1) (v := .pointer (some ⟨r.1, 0, none⟩)) rfl (by kernel_rfl) (by kernel_rfl) (by kernel_rfl) (fun _ _ _ h => h) (Or.inl ⟨by kernel_rfl, ?_⟩) hS ?_
            · intro W' hS; obtain ⟨s0, s1, s2, s3, s4⟩ := hS; go_simp; try with_reducible rfl
            try simp only [Act.put, List.getElem_toArray, List.setIfInBounds_toArray]
            refine wpAnyH_take (i := 2) (v := .pointer (some ⟨r.1, 0, none⟩)) rfl (by kernel_rfl) (by kernel_rfl) (by kernel_rfl) (fun _ _ _ h => h) (Or.inl ⟨by kernel_rfl, ?_⟩) hS ?_
            · intro W' hS; obtain ⟨s0, s1, s2, s3, s4⟩ := hS; go_simp; try with_reducible rfl
            try simp only [Act.put, List.getElem_toArray, List.getElem_cons_succ, List.getElem_cons_zero, List.setIfInBounds_toArray, List.set_cons_zero, List.set_cons_succ]
            refine wpAnyH_take (i := 3) (v := .pointer (some ⟨r.1, 0, none⟩)) rfl (by kernel_rfl) (by kernel_rfl) (by kernel_rfl) (fun _ _ _ h => h) (Or.inl ⟨by kernel_rfl, ?_⟩) hS ?_
            · intro W' hS; obtain ⟨s0, s1, s2, s3, s4⟩ := hS; go_simp; try with_reducible rfl
            try simp only [Act.put, List.getElem_toArray, List.getElem_cons_succ, List.getElem_cons_zero, List.setIfInBounds_toArray, List.set_cons_zero, List.set_cons_succ]
            refine wpAnyH_take (i := 4) (v := .agg #[.string path, .int .i64 kind, .int .i64 mode, .int .i64 time, .string data]) rfl (by kernel_rfl) (by kernel_rfl) (by kernel_rfl) (fun _ _ _ h => h) (Or.inl ⟨by kernel_rfl, ?_⟩) hS ?_
            · intro W' hS; obtain ⟨s0, s1, s2, s3, s4⟩ := hS; go_simp; try with_reducible rfl
            try simp only [Act.put, List.getElem_toArray, List.getElem_cons_succ, List.getElem_cons_zero, List.setIfInBounds_toArray, List.set_cons_zero, List.set_cons_succ]
            refine wpAnyH_take (i := 5) (v := .agg #[.string path, .int .i64 kind, .int .i64 mode, .int .i64 time, .string data, .bool true]) rfl (by kernel_rfl) (by kernel_rfl) (by kernel_rfl) (fun _ _ _ h => h) (Or.inl ⟨by kernel_rfl, ?_⟩) hS ?_
            · intro W' hS; obtain ⟨s0, s1, s2, s3, s4⟩ := hS; go_simp; try with_reducible rfl
            try simp only [Act.put, List.getElem_toArray, List.getElem_cons_succ, List.getElem_cons_zero, List.setIfInBounds_toArray, List.set_cons_zero, List.set_cons_succ]
            clear hS
            generalize World.drew w2 = U0 at hB0 ⊢
            have hown0 := own_below hown hB0
            have hoff := hown.lt
            have hsz0 := HWr2.out.self
            have hV4 : w0.heap.size + 2 ≤ w2.heap.size := (Array.getElem?_eq_some_iff.1 hsz0).1
            clear hsz0
            refine heldS_two (i := 0) (k := 6) (by kernel_rfl) rfl rfl (fun K0 hK => ?_) (fun K0 hK => ?_)
            · have c0 := cell_of_row _ _ 0 _ _ _ ((hB0.block _ (Array.getElem?_eq_some_iff.1 HE.out).1).trans HE.out)
              go_simp
              refine hK _ _ (HS.out _ (HBk.out _ hB0)) ?_
              clear hK K0 c0
              try simp only [Act.put, List.getElem_toArray, List.getElem_cons_succ, List.getElem_cons_zero, List.setIfInBounds_toArray, List.set_cons_zero, List.set_cons_succ]
              refine heldS_one (i := 6) (by kernel_rfl) rfl (fun K0 hK => ?_)
              go_simp
              have hB1 := hB0.alloc hB0.size (.cells #[.string path, .int .i64 kind, .int .i64 mode, .int .i64 time, .string data, .bool true] 53)
              have hown1 := hown0.alloc (.cells #[.string path, .int .i64 kind, .int .i64 mode, .int .i64 time, .string data, .bool true] 53)
              have hnew := World.news_of_block (World.alloc_heap_new U0 (Obj.cells #[.string path, .int .i64 kind, .int .i64 mode, .int .i64 time, .string data, .bool true] 53))
              refine hK _ _ (HS.out _ (HBk.out _ hB1)) ?_
              clear hK K0
              try simp only [Act.put, List.getElem_toArray, List.getElem_cons_succ, List.getElem_cons_zero, List.setIfInBounds_toArray, List.set_cons_zero, List.set_cons_succ]
              obtain ⟨g1, hg1⟩ : ∃ g1, g1 = U0.heap.size := ⟨_, rfl⟩
              rw [← hg1] at hnew ⊢
              clear hg1
              generalize U0.alloc (.cells #[.string path, .int .i64 kind, .int .i64 mode, .int .i64 time, .string data, .bool true] 53) = U1 at hB1 hown1 hnew ⊢
              have hsz1 : w0.heap.size + 2 ≤ U1.heap.size := Nat.le_trans hV4 hB1.size
              refine heldS_one (i := 7) (by kernel_rfl) rfl (fun K0 hK => ?_)
              refine step_append_lies _ rfl (.tmp 24) (.tmp 30) 48 rfl (w0.heap.size + 2) 53 i0 _ 6 64 Tryz.underlying48 hi0 hz0 hz1 hz2 rfl (by decide) _ Lo.length _ rfl hown1 ⟨g1, 0, none⟩ 1 1 (#[.string path, .int .i64 kind, .int .i64 mode, .int .i64 time, .string data, .bool true] : Array Value).toList rfl rfl hnew (by simp [Value.oneCell']) (by decide) (by unfold maxLen; omega) (by omega) hsz1 _ rfl ?_
              intro g cap U2 hO hg hfr hlt2
              have hg : U1.grownBy U2 (Value.slice E Lo.length ce).ownBlock := hg
              have hm := HWr2.out.more (n := ⟨⟨path, kind, mode, time, data⟩, true⟩) HE.out hown hB1 hO hg
              have HKe := hide (keep_more HE.out hown hB1 hg (.slice (some ⟨g, 0, none⟩) (Lo.length + 1) cap))
              have HM := hide hm.1
              have c0 := cell_of_row _ _ 0 _ _ _ hm.2
              have z0 := frozen_of_row _ _ 0 _ _ hm.2
              have HS2 := hide (HS.out _ (show Below w0.heap.size w0 U2 from (HBk.out _ hB1).grown hg (HBk.out _ hB1).size (fun x e => by have := (hoff x e).1; omega)))
              refine hK _ _ HS2.out ?_
              clear hK K0 hO hg hfr hlt2 hm HS2
              try simp only [Act.put, List.getElem_toArray, List.getElem_cons_succ, List.getElem_cons_zero, List.setIfInBounds_toArray, List.set_cons_zero, List.set_cons_succ]
              refine heldS_one (i := 8) (by kernel_rfl) rfl (fun K0 hK => ?_)
              go_simp
              refine hK _ _ (HS.out _ HM.out.below) ?_
              clear hK K0 c0 z0
              try simp only [Act.put, List.getElem_toArray, List.getElem_cons_succ, List.getElem_cons_zero, List.setIfInBounds_toArray, List.set_cons_zero, List.set_cons_succ]
              refine wpAnyH_done (by kernel_rfl) ?_ _
              clear hB0 hB1 hown0 hown1 hnew hsz1 hown hV4 hoff HS HBk HE HWr2 hbig
              generalize U2.setCell ⟨w0.heap.size, 0, none⟩ (.slice (some ⟨g, 0, none⟩) (Lo.length + 1) cap) = U3 at HM HKe ⊢
              have hWI : WI w0 ((Ks ++ (K ++ [(P ++ [toL s], false)])).map (emit V)) U3 := by
                rw [← List.append_assoc, List.map_append, List.map_singleton, HEm.out, ← HLo.out]
                exact HM.out
              have hav2 := fresh_one HK.out HKs.out.2 hlk
              have hO2 : KsOk LL (Ks ++ (K ++ [(P ++ [toL s], false)])) := HO.out.more (HP.out.dom _ (by rw [HAr.out]; simp)) hav2 _
              have hrec := HIH.out (P ++ [toL s]) r false (Ks ++ (K ++ [(P ++ [toL s], false)])) U3 HAr.out (by have := HPf.out.2; rw [List.length_append, List.length_singleton]; omega) hWI hO2 (fresh_deep HK.out HKs.out.2 hlk false)
              have HRec := hide hrec
              have y1 := cell_of_row _ _ 0 _ _ _ hWI.self
              unfold underV at y1
              have HO2 := hide hO2
              clear hrec hWI hav2 hO2
              go_wp2_with fail
              refine HRec.out.mono ?_
              rintro e w5 ⟨K2, rfl, hK2, hKo, hW5, hKp5⟩
              have hIt := HR2.out
              have hR5 := ranges_keep HR2.out (HKe.out.trans hKp5)
              have HKn := hide (HK.out.more (toL s) (not_passed hlk) (passed_step left s) HNx.out hK2)
              have HKeep := hide (HKp2.out.trans (HKe.out.trans hKp5))
              have e9 : Ks ++ (K ++ [(P ++ [toL s], false)]) ++ K2 = Ks ++ (K ++ [(P ++ [toL s], false)] ++ K2) := by simp
              rw [e9] at hKo hW5
              have HR5 := hide hR5
              have HW5 := hide hW5
              have HO5 := hide hKo
              clear hR5 hW5 hKo hIt hK2 hKp5 e9 y1
              go_wp2_with fail
              go_roundw
              case rel => exact ⟨_, cnt2, K ++ [(P ++ [toL s], false)] ++ K2, HR5, HKn, HO5, HW5, HKeep⟩
              case measure => rw [HR5.out.left_eq, HR.out.left_eq]; omega
            · go_simp
              have hB1 := hB0.alloc hB0.size (.cells #[.string path, .int .i64 kind, .int .i64 mode, .int .i64 time, .string data, .bool true] 53)
              have hown1 := hown0.alloc (.cells #[.string path, .int .i64 kind, .int .i64 mode, .int .i64 time, .string data, .bool true] 53)
              have hnew := World.news_of_block (World.alloc_heap_new U0 (Obj.cells #[.string path, .int .i64 kind, .int .i64 mode, .int .i64 time, .string data, .bool true] 53))
              refine hK _ _ (HS.out _ (HBk.out _ hB1)) ?_
              clear hK K0
              try simp only [Act.put, List.getElem_toArray, List.getElem_cons_succ, List.getElem_cons_zero, List.setIfInBounds_toArray, List.set_cons_zero, List.set_cons_succ]
              obtain ⟨g1, hg1⟩ : ∃ g1, g1 = U0.heap.size := ⟨_, rfl⟩
              rw [← hg1] at hnew ⊢
              clear hg1
              generalize U0.alloc (.cells #[.string path, .int .i64 kind, .int .i64 mode, .int .i64 time, .string data, .bool true] 53) = U1 at hB1 hown1 hnew ⊢
              refine heldS_one (i := 0) (by kernel_rfl) rfl (fun K0 hK => ?_)
              have c0 := cell_of_row _ _ 0 _ _ _ ((hB1.block _ (Array.getElem?_eq_some_iff.1 HE.out).1).trans HE.out)
              go_simp
              refine hK _ _ (HS.out _ (HBk.out _ hB1)) ?_
              clear hK K0 c0
              try simp only [Act.put, List.getElem_toArray, List.getElem_cons_succ, List.getElem_cons_zero, List.setIfInBounds_toArray, List.set_cons_zero, List.set_cons_succ]
              have hsz1 : w0.heap.size + 2 ≤ U1.heap.size := Nat.le_trans hV4 hB1.size
              refine heldS_one (i := 7) (by kernel_rfl) rfl (fun K0 hK => ?_)
              refine step_append_lies _ rfl (.tmp 24) (.tmp 30) 48 rfl (w0.heap.size + 2) 53 i0 _ 6 64 Tryz.underlying48 hi0 hz0 hz1 hz2 rfl (by decide) _ Lo.length _ rfl hown1 ⟨g1, 0, none⟩ 1 1 (#[.string path, .int .i64 kind, .int .i64 mode, .int .i64 time, .string data, .bool true] : Array Value).toList rfl rfl hnew (by simp [Value.oneCell']) (by decide) (by unfold maxLen; omega) (by omega) hsz1 _ rfl ?_
              intro g cap U2 hO hg hfr hlt2
              have hg : U1.grownBy U2 (Value.slice E Lo.length ce).ownBlock := hg
              have hm := HWr2.out.more (n := ⟨⟨path, kind, mode, time, data⟩, true⟩) HE.out hown hB1 hO hg
              have HKe := hide (keep_more HE.out hown hB1 hg (.slice (some ⟨g, 0, none⟩) (Lo.length + 1) cap))
              have HM := hide hm.1
              have c0 := cell_of_row _ _ 0 _ _ _ hm.2
              have z0 := frozen_of_row _ _ 0 _ _ hm.2
              have HS2 := hide (HS.out _ (show Below w0.heap.size w0 U2 from (HBk.out _ hB1).grown hg (HBk.out _ hB1).size (fun x e => by have := (hoff x e).1; omega)))
              refine hK _ _ HS2.out ?_
              clear hK K0 hO hg hfr hlt2 hm HS2
              try simp only [Act.put, List.getElem_toArray, List.getElem_cons_succ, List.getElem_cons_zero, List.setIfInBounds_toArray, List.set_cons_zero, List.set_cons_succ]
              refine heldS_one (i := 8) (by kernel_rfl) rfl (fun K0 hK => ?_)
              go_simp
              refine hK _ _ (HS.out _ HM.out.below) ?_
              clear hK K0 c0 z0
              try simp only [Act.put, List.getElem_toArray, List.getElem_cons_succ, List.getElem_cons_zero, List.setIfInBounds_toArray, List.set_cons_zero, List.set_cons_succ]
              refine wpAnyH_done (by kernel_rfl) ?_ _
              clear hB0 hB1 hown0 hown1 hnew hsz1 hown hV4 hoff HS HBk HE HWr2 hbig
              generalize U2.setCell ⟨w0.heap.size, 0, none⟩ (.slice (some ⟨g, 0, none⟩) (Lo.length + 1) cap) = U3 at HM HKe ⊢
              have hWI : WI w0 ((Ks ++ (K ++ [(P ++ [toL s], false)])).map (emit V)) U3 := by
                rw [← List.append_assoc, List.map_append, List.map_singleton, HEm.out, ← HLo.out]
                exact HM.out
              have hav2 := fresh_one HK.out HKs.out.2 hlk
              have hO2 : KsOk LL (Ks ++ (K ++ [(P ++ [toL s], false)])) := HO.out.more (HP.out.dom _ (by rw [HAr.out]; simp)) hav2 _
              have hrec := HIH.out (P ++ [toL s]) r false (Ks ++ (K ++ [(P ++ [toL s], false)])) U3 HAr.out (by have := HPf.out.2; rw [List.length_append, List.length_singleton]; omega) hWI hO2 (fresh_deep HK.out HKs.out.2 hlk false)
              have HRec := hide hrec
              have y1 := cell_of_row _ _ 0 _ _ _ hWI.self
              unfold underV at y1
              have HO2 := hide hO2
              clear hrec hWI hav2 hO2
              go_wp2_with fail
              refine HRec.out.mono ?_
              rintro e w5 ⟨K2, rfl, hK2, hKo, hW5, hKp5⟩
              have hIt := HR2.out
              have hR5 := ranges_keep HR2.out (HKe.out.trans hKp5)
              have HKn := hide (HK.out.more (toL s) (not_passed hlk) (passed_step left s) HNx.out hK2)
              have HKeep := hide (HKp2.out.trans (HKe.out.trans hKp5))
              have e9 : Ks ++ (K ++ [(P ++ [toL s], false)]) ++ K2 = Ks ++ (K ++ [(P ++ [toL s], false)] ++ K2) := by simp
              rw [e9] at hKo hW5
              have HR5 := hide hR5
              have HW5 := hide hW5
              have HO5 := hide hKo
              clear hR5 hW5 hKo hIt hK2 hKp5 e9 y1
              go_wp2_with fail
              go_roundw
              case rel => exact ⟨_, cnt2, K ++ [(P ++ [toL s], false)] ++ K2, HR5, HKn, HO5, HW5, HKeep⟩
              case measure => rw [HR5.out.left_eq, HR.out.left_eq]; omega
          | false =>
            cases lf with
            | true =>
              have HNx := hide (show nxt false (V (P ++ [toL s])) = some true from hnx)
              clear hnx
              go_wp2_with fail
              refine HOu.out.mono ?_
              rintro e wx ⟨rfl, hwx⟩
              obtain rfl : w2 = wx := hwx.symm
              clear hwx hen
              go_upto_region 7 with fail
              clear y11
              obtain ⟨nd, hnd⟩ : ∃ nd, nd = (V (P ++ [toL s])).d := ⟨_, rfl⟩
              have HEm := hide (show emit V (P ++ [toL s], true) = ⟨nd, false⟩ by rw [hnd]; rfl)
              obtain ⟨path, kind, mode, time, data⟩ := nd
              have HS := hide (fun (W' : World) (bb : Below w0.heap.size w0 W') => (⟨(show W'.cell? ⟨r.1, 5, none⟩ = some (.string path) from by have h := cell_of_row _ _ 5 _ _ _ ((HP.out.same (fun k hk => bb.block k (HP.out.lt hk).2)).cell _ _ HAr.out); rw [h]; show some (Value.string (V (P ++ [toL s])).d.path) = _; rw [← hnd]), (show W'.cell? ⟨r.1, 6, none⟩ = some (.int .i64 kind) from by have h := cell_of_row _ _ 6 _ _ _ ((HP.out.same (fun k hk => bb.block k (HP.out.lt hk).2)).cell _ _ HAr.out); rw [h]; show some (Value.int .i64 (V (P ++ [toL s])).d.kind) = _; rw [← hnd]), (show W'.cell? ⟨r.1, 7, none⟩ = some (.int .i64 mode) from by have h := cell_of_row _ _ 7 _ _ _ ((HP.out.same (fun k hk => bb.block k (HP.out.lt hk).2)).cell _ _ HAr.out); rw [h]; show some (Value.int .i64 (V (P ++ [toL s])).d.mode) = _; rw [← hnd]), (show W'.cell? ⟨r.1, 8, none⟩ = some (.int .i64 time) from by have h := cell_of_row _ _ 8 _ _ _ ((HP.out.same (fun k hk => bb.block k (HP.out.lt hk).2)).cell _ _ HAr.out); rw [h]; show some (Value.int .i64 (V (P ++ [toL s])).d.time) = _; rw [← hnd]), (show W'.cell? ⟨r.1, 9, none⟩ = some (.string data) from by have h := cell_of_row _ _ 9 _ _ _ ((HP.out.same (fun k hk => bb.block k (HP.out.lt hk).2)).cell _ _ HAr.out); rw [h]; show some (Value.string (V (P ++ [toL s])).d.data) = _; rw [← hnd])⟩ : W'.cell? ⟨r.1, 5, none⟩ = some (.string path) ∧ W'.cell? ⟨r.1, 6, none⟩ = some (.int .i64 kind) ∧ W'.cell? ⟨r.1, 7, none⟩ = some (.int .i64 mode) ∧ W'.cell? ⟨r.1, 8, none⟩ = some (.int .i64 time) ∧ W'.cell? ⟨r.1, 9, none⟩ = some (.string data)))
              clear hnd
              obtain ⟨E, ce, hE, hown⟩ := HWr2.out.out
              have hbig : ((Ks ++ K).map (emit V)).length ≤ 100000 := by have := HO.out.few; rw [List.length_map]; omega
              have HBk := hide (fun (W' : World) (bb : Below w2.heap.size w2 W') => HWr2.out.below.trans (bb.mono HWr2.out.below.size))
              have HE := hide hE
              obtain ⟨Lo, hLo⟩ : ∃ Lo, Lo = (Ks ++ K).map (emit V) := ⟨_, rfl⟩
              rw [← hLo] at HWr2 hE hown hbig HE
              have HLo := hide hLo
              clear hLo hE
              have hS := HS.out _ (HBk.out _ (Below.refl w2.heap.size w2).drew)
              have hB0 := (Below.refl w2.heap.size w2).drew
              refine wp_region_held (by kernel_rfl) (S := fun W' => W'.cell? ⟨r.1, 5, none⟩ = some (.string path) ∧ W'.cell? ⟨r.1, 6, none⟩ = some (.int .i64 kind) ∧ W'.cell? ⟨r.1, 7, none⟩ = some (.int .i64 mode) ∧ W'.cell? ⟨r.1, 8, none⟩ = some (.int .i64 time) ∧ W'.cell? ⟨r.1, 9, none⟩ = some (.string data)) ?_
              change wpAnyH _ _ _ _ _ _ _ _ (World.drew _)
              refine wpAnyH_take (i := 1) (v := .pointer (some ⟨r.1, 0, none⟩)) rfl (by kernel_rfl) (by kernel_rfl) (by kernel_rfl) (fun _ _ _ h => h) (Or.inl ⟨by kernel_rfl, ?_⟩) hS ?_
              · intro W' hS; obtain ⟨s0, s1, s2, s3, s4⟩ := hS; go_simp; try with_reducible rfl
              try simp only [Act.put, List.getElem_toArray, List.setIfInBounds_toArray]
              refine wpAnyH_take (i := 2) (v := .pointer (some ⟨r.1, 0, none⟩)) rfl (by kernel_rfl) (by kernel_rfl) (by kernel_rfl) (fun _ _ _ h => h) (Or.inl ⟨by kernel_rfl, ?_⟩) hS ?_
              · intro W' hS; obtain ⟨s0, s1, s2, s3, s4⟩ := hS; go_simp; try with_reducible rfl
              try simp only [Act.put, List.getElem_toArray, List.getElem_cons_succ, List.getElem_cons_zero, List.setIfInBounds_toArray, List.set_cons_zero, List.set_cons_succ]
              refine wpAnyH_take (i := 3) (v := .pointer (some ⟨r.1, 5, none⟩)) rfl (by kernel_rfl) (by kernel_rfl) (by kernel_rfl) (fun _ _ _ h => h) (Or.inl ⟨by kernel_rfl, ?_⟩) hS ?_
              · intro W' hS; obtain ⟨s0, s1, s2, s3, s4⟩ := hS; go_simp; try with_reducible rfl
              try simp only [Act.put, List.getElem_toArray, List.getElem_cons_succ, List.getElem_cons_zero, List.setIfInBounds_toArray, List.set_cons_zero, List.set_cons_succ]
              refine wpAnyH_take (i := 4) (v := .agg #[.string path, .int .i64 kind, .int .i64 mode, .int .i64 time, .string data]) rfl (by kernel_rfl) (by kernel_rfl) (by kernel_rfl) (fun _ _ _ h => h) (Or.inl ⟨by kernel_rfl, ?_⟩) hS ?_
              · intro W' hS; obtain ⟨s0, s1, s2, s3, s4⟩ := hS; go_simp; try with_reducible rfl
              try simp only [Act.put, List.getElem_toArray, List.getElem_cons_succ, List.getElem_cons_zero, List.setIfInBounds_toArray, List.set_cons_zero, List.set_cons_succ]
              refine wpAnyH_take (i := 5) (v := .agg #[.string path, .int .i64 kind, .int .i64 mode, .int .i64 time, .string data, .bool false]) rfl (by kernel_rfl) (by kernel_rfl) (by kernel_rfl) (fun _ _ _ h => h) (Or.inl ⟨by kernel_rfl, ?_⟩) hS ?_
              · intro W' hS; obtain ⟨s0, s1, s2, s3, s4⟩ := hS; go_simp; try with_reducible rfl
              try simp only [Act.put, List.getElem_toArray, List.getElem_cons_succ, List.getElem_cons_zero, List.setIfInBounds_toArray, List.set_cons_zero, List.set_cons_succ]
              clear hS
              generalize World.drew w2 = U0 at hB0 ⊢
              have hown0 := own_below hown hB0
              have hoff := hown.lt
              have hsz0 := HWr2.out.self
              have hV4 : w0.heap.size + 2 ≤ w2.heap.size := (Array.getElem?_eq_some_iff.1 hsz0).1
              clear hsz0
              refine heldS_two (i := 0) (k := 6) (by kernel_rfl) rfl rfl (fun K0 hK => ?_) (fun K0 hK => ?_)
              · have c0 := cell_of_row _ _ 0 _ _ _ ((hB0.block _ (Array.getElem?_eq_some_iff.1 HE.out).1).trans HE.out)
                go_simp
                refine hK _ _ (HS.out _ (HBk.out _ hB0)) ?_
                clear hK K0 c0
                try simp only [Act.put, List.getElem_toArray, List.getElem_cons_succ, List.getElem_cons_zero, List.setIfInBounds_toArray, List.set_cons_zero, List.set_cons_succ]
                refine heldS_one (i := 6) (by kernel_rfl) rfl (fun K0 hK => ?_)
                go_simp
                have hB1 := hB0.alloc hB0.size (.cells #[.string path, .int .i64 kind, .int .i64 mode, .int .i64 time, .string data, .bool false] 53)
                have hown1 := hown0.alloc (.cells #[.string path, .int .i64 kind, .int .i64 mode, .int .i64 time, .string data, .bool false] 53)
                have hnew := World.news_of_block (World.alloc_heap_new U0 (Obj.cells #[.string path, .int .i64 kind, .int .i64 mode, .int .i64 time, .string data, .bool false] 53))
                refine hK _ _ (HS.out _ (HBk.out _ hB1)) ?_
                clear hK K0
                try simp only [Act.put, List.getElem_toArray, List.getElem_cons_succ, List.getElem_cons_zero, List.setIfInBounds_toArray, List.set_cons_zero, List.set_cons_succ]
                obtain ⟨g1, hg1⟩ : ∃ g1, g1 = U0.heap.size := ⟨_, rfl⟩
                rw [← hg1] at hnew ⊢
                clear hg1
                generalize U0.alloc (.cells #[.string path, .int .i64 kind, .int .i64 mode, .int .i64 time, .string data, .bool false] 53) = U1 at hB1 hown1 hnew ⊢
                have hsz1 : w0.heap.size + 2 ≤ U1.heap.size := Nat.le_trans hV4 hB1.size
                refine heldS_one (i := 7) (by kernel_rfl) rfl (fun K0 hK => ?_)
                refine step_append_lies _ rfl (.tmp 40) (.tmp 46) 48 rfl (w0.heap.size + 2) 53 i0 _ 6 64 Tryz.underlying48 hi0 hz0 hz1 hz2 rfl (by decide) _ Lo.length _ rfl hown1 ⟨g1, 0, none⟩ 1 1 (#[.string path, .int .i64 kind, .int .i64 mode, .int .i64 time, .string data, .bool false] : Array Value).toList rfl rfl hnew (by simp [Value.oneCell']) (by decide) (by unfold maxLen; omega) (by omega) hsz1 _ rfl ?_
                intro g cap U2 hO hg hfr hlt2
                have hg : U1.grownBy U2 (Value.slice E Lo.length ce).ownBlock := hg
                have hm := HWr2.out.more (n := ⟨⟨path, kind, mode, time, data⟩, false⟩) HE.out hown hB1 hO hg
                have HKe := hide (keep_more HE.out hown hB1 hg (.slice (some ⟨g, 0, none⟩) (Lo.length + 1) cap))
                have HM := hide hm.1
                have c0 := cell_of_row _ _ 0 _ _ _ hm.2
                have z0 := frozen_of_row _ _ 0 _ _ hm.2
                have HS2 := hide (HS.out _ (show Below w0.heap.size w0 U2 from (HBk.out _ hB1).grown hg (HBk.out _ hB1).size (fun x e => by have := (hoff x e).1; omega)))
                refine hK _ _ HS2.out ?_
                clear hK K0 hO hg hfr hlt2 hm HS2
                try simp only [Act.put, List.getElem_toArray, List.getElem_cons_succ, List.getElem_cons_zero, List.setIfInBounds_toArray, List.set_cons_zero, List.set_cons_succ]
                refine heldS_one (i := 8) (by kernel_rfl) rfl (fun K0 hK => ?_)
                go_simp
                refine hK _ _ (HS.out _ HM.out.below) ?_
                clear hK K0 c0 z0
                try simp only [Act.put, List.getElem_toArray, List.getElem_cons_succ, List.getElem_cons_zero, List.setIfInBounds_toArray, List.set_cons_zero, List.set_cons_succ]
                refine wpAnyH_done (by kernel_rfl) ?_ _
                clear hB0 hB1 hown0 hown1 hnew hsz1 hown hV4 hoff HS HBk HE HWr2 hbig
                generalize U2.setCell ⟨w0.heap.size, 0, none⟩ (.slice (some ⟨g, 0, none⟩) (Lo.length + 1) cap) = U3 at HM HKe ⊢
                have hWI : WI w0 ((Ks ++ (K ++ [(P ++ [toL s], true)])).map (emit V)) U3 := by
                  rw [← List.append_assoc, List.map_append, List.map_singleton, HEm.out, ← HLo.out]
                  exact HM.out
                have hav2 := fresh_one HK.out HKs.out.2 hlk
                have hO2 : KsOk LL (Ks ++ (K ++ [(P ++ [toL s], true)])) := HO.out.more (HP.out.dom _ (by rw [HAr.out]; simp)) hav2 _
                have hrec := HIH.out (P ++ [toL s]) r true (Ks ++ (K ++ [(P ++ [toL s], true)])) U3 HAr.out (by have := HPf.out.2; rw [List.length_append, List.length_singleton]; omega) hWI hO2 (fresh_deep HK.out HKs.out.2 hlk true)
                have HRec := hide hrec
                have y1 := cell_of_row _ _ 0 _ _ _ hWI.self
                unfold underV at y1
                have HO2 := hide hO2
                clear hrec hWI hav2 hO2
                go_wp2_with fail
                refine HRec.out.mono ?_
                rintro e w5 ⟨K2, rfl, hK2, hKo, hW5, hKp5⟩
                have hIt := HR2.out
                have hR5 := ranges_keep HR2.out (HKe.out.trans hKp5)
                have HKn := hide (HK.out.more (toL s) (not_passed hlk) (passed_step left s) HNx.out hK2)
                have HKeep := hide (HKp2.out.trans (HKe.out.trans hKp5))
                have e9 : Ks ++ (K ++ [(P ++ [toL s], true)]) ++ K2 = Ks ++ (K ++ [(P ++ [toL s], true)] ++ K2) := by simp
                rw [e9] at hKo hW5
                have HR5 := hide hR5
                have HW5 := hide hW5
                have HO5 := hide hKo
                clear hR5 hW5 hKo hIt hK2 hKp5 e9 y1
                go_wp2_with fail
                go_roundw
                case rel => exact ⟨_, cnt2, K ++ [(P ++ [toL s], true)] ++ K2, HR5, HKn, HO5, HW5, HKeep⟩
                case measure => rw [HR5.out.left_eq, HR.out.left_eq]; omega
              · go_simp
                have hB1 := hB0.alloc hB0.size (.cells #[.string path, .int .i64 kind, .int .i64 mode, .int .i64 time, .string data, .bool false] 53)
                have hown1 := hown0.alloc (.cells #[.string path, .int .i64 kind, .int .i64 mode, .int .i64 time, .string data, .bool false] 53)
                have hnew := World.news_of_block (World.alloc_heap_new U0 (Obj.cells #[.string path, .int .i64 kind, .int .i64 mode, .int .i64 time, .string data, .bool false] 53))
                refine hK _ _ (HS.out _ (HBk.out _ hB1)) ?_
                clear hK K0
                try simp only [Act.put, List.getElem_toArray, List.getElem_cons_succ, List.getElem_cons_zero, List.setIfInBounds_toArray, List.set_cons_zero, List.set_cons_succ]
                obtain ⟨g1, hg1⟩ : ∃ g1, g1 = U0.heap.size := ⟨_, rfl⟩
                rw [← hg1] at hnew ⊢
                clear hg1
                generalize U0.alloc (.cells #[.string path, .int .i64 kind, .int .i64 mode, .int .i64 time, .string data, .bool false] 53) = U1 at hB1 hown1 hnew ⊢
                refine heldS_one (i := 0) (by kernel_rfl) rfl (fun K0 hK => ?_)
                have c0 := cell_of_row _ _ 0 _ _ _ ((hB1.block _ (Array.getElem?_eq_some_iff.1 HE.out).1).trans HE.out)
                go_simp
                refine hK _ _ (HS.out _ (HBk.out _ hB1)) ?_
                clear hK K0 c0
                try simp only [Act.put, List.getElem_toArray, List.getElem_cons_succ, List.getElem_cons_zero, List.setIfInBounds_toArray, List.set_cons_zero, List.set_cons_succ]
                have hsz1 : w0.heap.size + 2 ≤ U1.heap.size := Nat.le_trans hV4 hB1.size
                refine heldS_one (i := 7) (by kernel_rfl) rfl (fun K0 hK => ?_)
                refine step_append_lies _ rfl (.tmp 40) (.tmp 46) 48 rfl (w0.heap.size + 2) 53 i0 _ 6 64 Tryz.underlying48 hi0 hz0 hz1 hz2 rfl (by decide) _ Lo.length _ rfl hown1 ⟨g1, 0, none⟩ 1 1 (#[.string path, .int .i64 kind, .int .i64 mode, .int .i64 time, .string data, .bool false] : Array Value).toList rfl rfl hnew (by simp [Value.oneCell']) (by decide) (by unfold maxLen; omega) (by omega) hsz1 _ rfl ?_
                intro g cap U2 hO hg hfr hlt2
                have hg : U1.grownBy U2 (Value.slice E Lo.length ce).ownBlock := hg
                have hm := HWr2.out.more (n := ⟨⟨path, kind, mode, time, data⟩, false⟩) HE.out hown hB1 hO hg
                have HKe := hide (keep_more HE.out hown hB1 hg (.slice (some ⟨g, 0, none⟩) (Lo.length + 1) cap))
                have HM := hide hm.1
                have c0 := cell_of_row _ _ 0 _ _ _ hm.2
                have z0 := frozen_of_row _ _ 0 _ _ hm.2
                have HS2 := hide (HS.out _ (show Below w0.heap.size w0 U2 from (HBk.out _ hB1).grown hg (HBk.out _ hB1).size (fun x e => by have := (hoff x e).1; omega)))
                refine hK _ _ HS2.out ?_
                clear hK K0 hO hg hfr hlt2 hm HS2
                try simp only [Act.put, List.getElem_toArray, List.getElem_cons_succ, List.getElem_cons_zero, List.setIfInBounds_toArray, List.set_cons_zero, List.set_cons_succ]
                refine heldS_one (i := 8) (by kernel_rfl) rfl (fun K0 hK => ?_)
                go_simp
                refine hK _ _ (HS.out _ HM.out.below) ?_
                clear hK K0 c0 z0
                try simp only [Act.put, List.getElem_toArray, List.getElem_cons_succ, List.getElem_cons_zero, List.setIfInBounds_toArray, List.set_cons_zero, List.set_cons_succ]
                refine wpAnyH_done (by kernel_rfl) ?_ _
                clear hB0 hB1 hown0 hown1 hnew hsz1 hown hV4 hoff HS HBk HE HWr2 hbig
                generalize U2.setCell ⟨w0.heap.size, 0, none⟩ (.slice (some ⟨g, 0, none⟩) (Lo.length + 1) cap) = U3 at HM HKe ⊢
                have hWI : WI w0 ((Ks ++ (K ++ [(P ++ [toL s], true)])).map (emit V)) U3 := by
                  rw [← List.append_assoc, List.map_append, List.map_singleton, HEm.out, ← HLo.out]
                  exact HM.out
                have hav2 := fresh_one HK.out HKs.out.2 hlk
                have hO2 : KsOk LL (Ks ++ (K ++ [(P ++ [toL s], true)])) := HO.out.more (HP.out.dom _ (by rw [HAr.out]; simp)) hav2 _
                have hrec := HIH.out (P ++ [toL s]) r true (Ks ++ (K ++ [(P ++ [toL s], true)])) U3 HAr.out (by have := HPf.out.2; rw [List.length_append, List.length_singleton]; omega) hWI hO2 (fresh_deep HK.out HKs.out.2 hlk true)
                have HRec := hide hrec
                have y1 := cell_of_row _ _ 0 _ _ _ hWI.self
                unfold underV at y1
                have HO2 := hide hO2
                clear hrec hWI hav2 hO2
                go_wp2_with fail
                refine HRec.out.mono ?_
                rintro e w5 ⟨K2, rfl, hK2, hKo, hW5, hKp5⟩
                have hIt := HR2.out
                have hR5 := ranges_keep HR2.out (HKe.out.trans hKp5)
                have HKn := hide (HK.out.more (toL s) (not_passed hlk) (passed_step left s) HNx.out hK2)
                have HKeep := hide (HKp2.out.trans (HKe.out.trans hKp5))
                have e9 : Ks ++ (K ++ [(P ++ [toL s], true)]) ++ K2 = Ks ++ (K ++ [(P ++ [toL s], true)] ++ K2) := by simp
                rw [e9] at hKo hW5
                have HR5 := hide hR5
                have HW5 := hide hW5
                have HO5 := hide hKo
                clear hR5 hW5 hKo hIt hK2 hKp5 e9 y1
                go_wp2_with fail
                go_roundw
                case rel => exact ⟨_, cnt2, K ++ [(P ++ [toL s], true)] ++ K2, HR5, HKn, HO5, HW5, HKeep⟩
                case measure => rw [HR5.out.left_eq, HR.out.left_eq]; omega
            | false =>
              have HNx := hide (show nxt false (V (P ++ [toL s])) = none from hnx)
              clear hnx
              go_wp2_with fail
              refine HOu.out.mono ?_
              rintro e wx ⟨rfl, hwx⟩
              obtain rfl : w2 = wx := hwx.symm
              clear hwx hen
              go_wp2_with fail
              go_roundw
              case rel => exact ⟨_, cnt2, K, HR2, hide (HK.out.skip (toL s) (passed_step left s) HNx.out), HO, HWr2, HKp2⟩
              case measure => rw [HR2.out.left_eq, HR.out.left_eq]; omega
        | true =>
          cases lf with
          | true =>
            have HNx := hide (show nxt true (V (P ++ [toL s])) = some true from hnx)
            clear hnx
            go_upto_region 7 with fail
            clear y11 hen
            obtain ⟨nd, hnd⟩ : ∃ nd, nd = (V (P ++ [toL s])).d := ⟨_, rfl⟩
            have HEm := hide (show emit V (P ++ [toL s], true) = ⟨nd, false⟩ by rw [hnd]; rfl)
            obtain ⟨path, kind, mode, time, data⟩ := nd
            have HS := hide (fun (W' : World) (bb : Below w0.heap.size w0 W') => (⟨(show W'.cell? ⟨r.1, 5, none⟩ = some (.string path) from by have h := cell_of_row _ _ 5 _ _ _ ((HP.out.same (fun k hk => bb.block k (HP.out.lt hk).2)).cell _ _ HAr.out); rw [h]; show some (Value.string (V (P ++ [toL s])).d.path) = _; rw [← hnd]), (show W'.cell? ⟨r.1, 6, none⟩ = some (.int .i64 kind) from by have h := cell_of_row _ _ 6 _ _ _ ((HP.out.same (fun k hk => bb.block k (HP.out.lt hk).2)).cell _ _ HAr.out); rw [h]; show some (Value.int .i64 (V (P ++ [toL s])).d.kind) = _; rw [← hnd]), (show W'.cell? ⟨r.1, 7, none⟩ = some (.int .i64 mode) from by have h := cell_of_row _ _ 7 _ _ _ ((HP.out.same (fun k hk => bb.block k (HP.out.lt hk).2)).cell _ _ HAr.out); rw [h]; show some (Value.int .i64 (V (P ++ [toL s])).d.mode) = _; rw [← hnd]), (show W'.cell? ⟨r.1, 8, none⟩ = some (.int .i64 time) from by have h := cell_of_row _ _ 8 _ _ _ ((HP.out.same (fun k hk => bb.block k (HP.out.lt hk).2)).cell _ _ HAr.out); rw [h]; show some (Value.int .i64 (V (P ++ [toL s])).d.time) = _; rw [← hnd]), (show W'.cell? ⟨r.1, 9, none⟩ = some (.string data) from by have h := cell_of_row _ _ 9 _ _ _ ((HP.out.same (fun k hk => bb.block k (HP.out.lt hk).2)).cell _ _ HAr.out); rw [h]; show some (Value.string (V (P ++ [toL s])).d.data) = _; rw [← hnd])⟩ : W'.cell? ⟨r.1, 5, none⟩ = some (.string path) ∧ W'.cell? ⟨r.1, 6, none⟩ = some (.int .i64 kind) ∧ W'.cell? ⟨r.1, 7, none⟩ = some (.int .i64 mode) ∧ W'.cell? ⟨r.1, 8, none⟩ = some (.int .i64 time) ∧ W'.cell? ⟨r.1, 9, none⟩ = some (.string data)))
            clear hnd
            obtain ⟨E, ce, hE, hown⟩ := HWr2.out.out
            have hbig : ((Ks ++ K).map (emit V)).length ≤ 100000 := by have := HO.out.few; rw [List.length_map]; omega
            have HBk := hide (fun (W' : World) (bb : Below w2.heap.size w2 W') => HWr2.out.below.trans (bb.mono HWr2.out.below.size))
            have HE := hide hE
            obtain ⟨Lo, hLo⟩ : ∃ Lo, Lo = (Ks ++ K).map (emit V) := ⟨_, rfl⟩
            rw [← hLo] at HWr2 hE hown hbig HE
            have HLo := hide hLo
            clear hLo hE
            have hS := HS.out _ (HBk.out _ (Below.refl w2.heap.size w2).drew)
            have hB0 := (Below.refl w2.heap.size w2).drew
            refine wp_region_held (by kernel_rfl) (S := fun W' => W'.cell? ⟨r.1, 5, none⟩ = some (.string path) ∧ W'.cell? ⟨r.1, 6, none⟩ = some (.int .i64 kind) ∧ W'.cell? ⟨r.1, 7, none⟩ = some (.int .i64 mode) ∧ W'.cell? ⟨r.1, 8, none⟩ = some (.int .i64 time) ∧ W'.cell? ⟨r.1, 9, none⟩ = some (.string data)) ?_
            change wpAnyH _ _ _ _ _ _ _ _ (World.drew _)
            refine wpAnyH_take (i := 1) (v := .pointer (some ⟨r.1, 0, none⟩)) rfl (by kernel_rfl) (by kernel_rfl) (by kernel_rfl) (fun _ _ _ h => h) (Or.inl ⟨by kernel_rfl, ?_⟩) hS ?_
            · intro W' hS; obtain ⟨s0, s1, s2, s3, s4⟩ := hS; go_simp; try with_reducible rfl
            try simp only [Act.put, List.getElem_toArray, List.setIfInBounds_toArray]
            refine wpAnyH_take (i := 2) (v := .pointer (some ⟨r.1, 0, none⟩)) rfl (by kernel_rfl) (by kernel_rfl) (by kernel_rfl) (fun _ _ _ h => h) (Or.inl ⟨by kernel_rfl, ?_⟩) hS ?_
            · intro W' hS; obtain ⟨s0, s1, s2, s3, s4⟩ := hS; go_simp; try with_reducible rfl
            try simp only [Act.put, List.getElem_toArray, List.getElem_cons_succ, List.getElem_cons_zero, List.setIfInBounds_toArray, List.set_cons_zero, List.set_cons_succ]
            refine wpAnyH_take (i := 3) (v := .pointer (some ⟨r.1, 5, none⟩)) rfl (by kernel_rfl) (by kernel_rfl) (by kernel_rfl) (fun _ _ _ h => h) (Or.inl ⟨by kernel_rfl, ?_⟩) hS ?_
            · intro W' hS; obtain ⟨s0, s1, s2, s3, s4⟩ := hS; go_simp; try with_reducible rfl
            try simp only [Act.put, List.getElem_toArray, List.getElem_cons_succ, List.getElem_cons_zero, List.setIfInBounds_toArray, List.set_cons_zero, List.set_cons_succ]
            refine wpAnyH_take (i := 4) (v := .agg #[.string path, .int .i64 kind, .int .i64 mode, .int .i64 time, .string data]) rfl (by kernel_rfl) (by kernel_rfl) (by kernel_rfl) (fun _ _ _ h => h) (Or.inl ⟨by kernel_rfl, ?_⟩) hS ?_
            · intro W' hS; obtain ⟨s0, s1, s2, s3, s4⟩ := hS; go_simp; try with_reducible rfl
            try simp only [Act.put, List.getElem_toArray, List.getElem_cons_succ, List.getElem_cons_zero, List.setIfInBounds_toArray, List.set_cons_zero, List.set_cons_succ]
            refine wpAnyH_take (i := 5) (v := .agg #[.string path, .int .i64 kind, .int .i64 mode, .int .i64 time, .string data, .bool false]) rfl (by kernel_rfl) (by kernel_rfl) (by kernel_rfl) (fun _ _ _ h => h) (Or.inl ⟨by kernel_rfl, ?_⟩) hS ?_
            · intro W' hS; obtain ⟨s0, s1, s2, s3, s4⟩ := hS; go_simp; try with_reducible rfl
            try simp only [Act.put, List.getElem_toArray, List.getElem_cons_succ, List.getElem_cons_zero, List.setIfInBounds_toArray, List.set_cons_zero, List.set_cons_succ]
            clear hS
            generalize World.drew w2 = U0 at hB0 ⊢
            have hown0 := own_below hown hB0
            have hoff := hown.lt
            have hsz0 := HWr2.out.self
            have hV4 : w0.heap.size + 2 ≤ w2.heap.size := (Array.getElem?_eq_some_iff.1 hsz0).1
            clear hsz0
            refine heldS_two (i := 0) (k := 6) (by kernel_rfl) rfl rfl (fun K0 hK => ?_) (fun K0 hK => ?_)
            · have c0 := cell_of_row _ _ 0 _ _ _ ((hB0.block _ (Array.getElem?_eq_some_iff.1 HE.out).1).trans HE.out)
              go_simp
              refine hK _ _ (HS.out _ (HBk.out _ hB0)) ?_
              clear hK K0 c0
              try simp only [Act.put, List.getElem_toArray, List.getElem_cons_succ, List.getElem_cons_zero, List.setIfInBounds_toArray, List.set_cons_zero, List.set_cons_succ]
              refine heldS_one (i := 6) (by kernel_rfl) rfl (fun K0 hK => ?_)
              go_simp
              have hB1 := hB0.alloc hB0.size (.cells #[.string path, .int .i64 kind, .int .i64 mode, .int .i64 time, .string data, .bool false] 53)
              have hown1 := hown0.alloc (.cells #[.string path, .int .i64 kind, .int .i64 mode, .int .i64 time, .string data, .bool false] 53)
              have hnew := World.news_of_block (World.alloc_heap_new U0 (Obj.cells #[.string path, .int .i64 kind, .int .i64 mode, .int .i64 time, .string data, .bool false] 53))
              refine hK _ _ (HS.out _ (HBk.out _ hB1)) ?_
              clear hK K0
              try simp only [Act.put, List.getElem_toArray, List.getElem_cons_succ, List.getElem_cons_zero, List.setIfInBounds_toArray, List.set_cons_zero, List.set_cons_succ]
              obtain ⟨g1, hg1⟩ : ∃ g1, g1 = U0.heap.size := ⟨_, rfl⟩
              rw [← hg1] at hnew ⊢
              clear hg1
              generalize U0.alloc (.cells #[.string path, .int .i64 kind, .int .i64 mode, .int .i64 time, .string data, .bool false] 53) = U1 at hB1 hown1 hnew ⊢
              have hsz1 : w0.heap.size + 2 ≤ U1.heap.size := Nat.le_trans hV4 hB1.size
              refine heldS_one (i := 7) (by kernel_rfl) rfl (fun K0 hK => ?_)
              refine step_append_lies _ rfl (.tmp 40) (.tmp 46) 48 rfl (w0.heap.size + 2) 53 i0 _ 6 64 Tryz.underlying48 hi0 hz0 hz1 hz2 rfl (by decide) _ Lo.length _ rfl hown1 ⟨g1, 0, none⟩ 1 1 (#[.string path, .int .i64 kind, .int .i64 mode, .int .i64 time, .string data, .bool false] : Array Value).toList rfl rfl hnew (by simp [Value.oneCell']) (by decide) (by unfold maxLen; omega) (by omega) hsz1 _ rfl ?_
              intro g cap U2 hO hg hfr hlt2
              have hg : U1.grownBy U2 (Value.slice E Lo.length ce).ownBlock := hg
              have hm := HWr2.out.more (n := ⟨⟨path, kind, mode, time, data⟩, false⟩) HE.out hown hB1 hO hg
              have HKe := hide (keep_more HE.out hown hB1 hg (.slice (some ⟨g, 0, none⟩) (Lo.length + 1) cap))
              have HM := hide hm.1
              have c0 := cell_of_row _ _ 0 _ _ _ hm.2
              have z0 := frozen_of_row _ _ 0 _ _ hm.2
              have HS2 := hide (HS.out _ (show Below w0.heap.size w0 U2 from (HBk.out _ hB1).grown hg (HBk.out _ hB1).size (fun x e => by have := (hoff x e).1; omega)))
              refine hK _ _ HS2.out ?_
              clear hK K0 hO hg hfr hlt2 hm HS2
              try simp only [Act.put, List.getElem_toArray, List.getElem_cons_succ, List.getElem_cons_zero, List.setIfInBounds_toArray, List.set_cons_zero, List.set_cons_succ]
              refine heldS_one (i := 8) (by kernel_rfl) rfl (fun K0 hK => ?_)
              go_simp
              refine hK _ _ (HS.out _ HM.out.below) ?_
              clear hK K0 c0 z0
              try simp only [Act.put, List.getElem_toArray, List.getElem_cons_succ, List.getElem_cons_zero, List.setIfInBounds_toArray, List.set_cons_zero, List.set_cons_succ]
              refine wpAnyH_done (by kernel_rfl) ?_ _
              clear hB0 hB1 hown0 hown1 hnew hsz1 hown hV4 hoff HS HBk HE HWr2 hbig
              generalize U2.setCell ⟨w0.heap.size, 0, none⟩ (.slice (some ⟨g, 0, none⟩) (Lo.length + 1) cap) = U3 at HM HKe ⊢
              have hWI : WI w0 ((Ks ++ (K ++ [(P ++ [toL s], true)])).map (emit V)) U3 := by
                rw [← List.append_assoc, List.map_append, List.map_singleton, HEm.out, ← HLo.out]
                exact HM.out
              have hav2 := fresh_one HK.out HKs.out.2 hlk
              have hO2 : KsOk LL (Ks ++ (K ++ [(P ++ [toL s], true)])) := HO.out.more (HP.out.dom _ (by rw [HAr.out]; simp)) hav2 _
              have hrec := HIH.out (P ++ [toL s]) r true (Ks ++ (K ++ [(P ++ [toL s], true)])) U3 HAr.out (by have := HPf.out.2; rw [List.length_append, List.length_singleton]; omega) hWI hO2 (fresh_deep HK.out HKs.out.2 hlk true)
              have HRec := hide hrec
              have y1 := cell_of_row _ _ 0 _ _ _ hWI.self
              unfold underV at y1
              have HO2 := hide hO2
              clear hrec hWI hav2 hO2
              go_wp2_with fail
              refine HRec.out.mono ?_
              rintro e w5 ⟨K2, rfl, hK2, hKo, hW5, hKp5⟩
              have hIt := HR2.out
              have hR5 := ranges_keep HR2.out (HKe.out.trans hKp5)
              have HKn := hide (HK.out.more (toL s) (not_passed hlk) (passed_step left s) HNx.out hK2)
              have HKeep := hide (HKp2.out.trans (HKe.out.trans hKp5))
              have e9 : Ks ++ (K ++ [(P ++ [toL s], true)]) ++ K2 = Ks ++ (K ++ [(P ++ [toL s], true)] ++ K2) := by simp
              rw [e9] at hKo hW5
              have HR5 := hide hR5
              have HW5 := hide hW5
              have HO5 := hide hKo
              clear hR5 hW5 hKo hIt hK2 hKp5 e9 y1
              go_wp2_with fail
              go_roundw
              case rel => exact ⟨_, cnt2, K ++ [(P ++ [toL s], true)] ++ K2, HR5, HKn, HO5, HW5, HKeep⟩
              case measure => rw [HR5.out.left_eq, HR.out.left_eq]; omega
            · go_simp
              have hB1 := hB0.alloc hB0.size (.cells #[.string path, .int .i64 kind, .int .i64 mode, .int .i64 time, .string data, .bool false] 53)
              have hown1 := hown0.alloc (.cells #[.string path, .int .i64 kind, .int .i64 mode, .int .i64 time, .string data, .bool false] 53)
              have hnew := World.news_of_block (World.alloc_heap_new U0 (Obj.cells #[.string path, .int .i64 kind, .int .i64 mode, .int .i64 time, .string data, .bool false] 53))
              refine hK _ _ (HS.out _ (HBk.out _ hB1)) ?_
              clear hK K0
              try simp only [Act.put, List.getElem_toArray, List.getElem_cons_succ, List.getElem_cons_zero, List.setIfInBounds_toArray, List.set_cons_zero, List.set_cons_succ]
              obtain ⟨g1, hg1⟩ : ∃ g1, g1 = U0.heap.size := ⟨_, rfl⟩
              rw [← hg1] at hnew ⊢
              clear hg1
              generalize U0.alloc (.cells #[.string path, .int .i64 kind, .int .i64 mode, .int .i64 time, .string data, .bool false] 53) = U1 at hB1 hown1 hnew ⊢
              refine heldS_one (i := 0) (by kernel_rfl) rfl (fun K0 hK => ?_)
              have c0 := cell_of_row _ _ 0 _ _ _ ((hB1.block _ (Array.getElem?_eq_some_iff.1 HE.out).1).trans HE.out)
              go_simp
              refine hK _ _ (HS.out _ (HBk.out _ hB1)) ?_
              clear hK K0 c0
              try simp only [Act.put, List.getElem_toArray, List.getElem_cons_succ, List.getElem_cons_zero, List.setIfInBounds_toArray, List.set_cons_zero, List.set_cons_succ]
              have hsz1 : w0.heap.size + 2 ≤ U1.heap.size := Nat.le_trans hV4 hB1.size
              refine heldS_one (i := 7) (by kernel_rfl) rfl (fun K0 hK => ?_)
              refine step_append_lies _ rfl (.tmp 40) (.tmp 46) 48 rfl (w0.heap.size + 2) 53 i0 _ 6 64 Tryz.underlying48 hi0 hz0 hz1 hz2 rfl (by decide) _ Lo.length _ rfl hown1 ⟨g1, 0, none⟩ 1 1 (#[.string path, .int .i64 kind, .int .i64 mode, .int .i64 time, .string data, .bool false] : Array Value).toList rfl rfl hnew (by simp [Value.oneCell']) (by decide) (by unfold maxLen; omega) (by omega) hsz1 _ rfl ?_
              intro g cap U2 hO hg hfr hlt2
              have hg : U1.grownBy U2 (Value.slice E Lo.length ce).ownBlock := hg
              have hm := HWr2.out.more (n := ⟨⟨path, kind, mode, time, data⟩, false⟩) HE.out hown hB1 hO hg
              have HKe := hide (keep_more HE.out hown hB1 hg (.slice (some ⟨g, 0, none⟩) (Lo.length + 1) cap))
              have HM := hide hm.1
              have c0 := cell_of_row _ _ 0 _ _ _ hm.2
              have z0 := frozen_of_row _ _ 0 _ _ hm.2
              have HS2 := hide (HS.out _ (show Below w0.heap.size w0 U2 from (HBk.out _ hB1).grown hg (HBk.out _ hB1).size (fun x e => by have := (hoff x e).1; omega)))
              refine hK _ _ HS2.out ?_
              clear hK K0 hO hg hfr hlt2 hm HS2
              try simp only [Act.put, List.getElem_toArray, List.getElem_cons_succ, List.getElem_cons_zero, List.setIfInBounds_toArray, List.set_cons_zero, List.set_cons_succ]
              refine heldS_one (i := 8) (by kernel_rfl) rfl (fun K0 hK => ?_)
              go_simp
              refine hK _ _ (HS.out _ HM.out.below) ?_
              clear hK K0 c0 z0
              try simp only [Act.put, List.getElem_toArray, List.getElem_cons_succ, List.getElem_cons_zero, List.setIfInBounds_toArray, List.set_cons_zero, List.set_cons_succ]
              refine wpAnyH_done (by kernel_rfl) ?_ _
              clear hB0 hB1 hown0 hown1 hnew hsz1 hown hV4 hoff HS HBk HE HWr2 hbig
              generalize U2.setCell ⟨w0.heap.size, 0, none⟩ (.slice (some ⟨g, 0, none⟩) (Lo.length + 1) cap) = U3 at HM HKe ⊢
              have hWI : WI w0 ((Ks ++ (K ++ [(P ++ [toL s], true)])).map (emit V)) U3 := by
                rw [← List.append_assoc, List.map_append, List.map_singleton, HEm.out, ← HLo.out]
                exact HM.out
              have hav2 := fresh_one HK.out HKs.out.2 hlk
              have hO2 : KsOk LL (Ks ++ (K ++ [(P ++ [toL s], true)])) := HO.out.more (HP.out.dom _ (by rw [HAr.out]; simp)) hav2 _
              have hrec := HIH.out (P ++ [toL s]) r true (Ks ++ (K ++ [(P ++ [toL s], true)])) U3 HAr.out (by have := HPf.out.2; rw [List.length_append, List.length_singleton]; omega) hWI hO2 (fresh_deep HK.out HKs.out.2 hlk true)
              have HRec := hide hrec
              have y1 := cell_of_row _ _ 0 _ _ _ hWI.self
              unfold underV at y1
              have HO2 := hide hO2
              clear hrec hWI hav2 hO2
              go_wp2_with fail
              refine HRec.out.mono ?_
              rintro e w5 ⟨K2, rfl, hK2, hKo, hW5, hKp5⟩
              have hIt := HR2.out
              have hR5 := ranges_keep HR2.out (HKe.out.trans hKp5)
              have HKn := hide (HK.out.more (toL s) (not_passed hlk) (passed_step left s) HNx.out hK2)
              have HKeep := hide (HKp2.out.trans (HKe.out.trans hKp5))
              have e9 : Ks ++ (K ++ [(P ++ [toL s], true)]) ++ K2 = Ks ++ (K ++ [(P ++ [toL s], true)] ++ K2) := by simp
              rw [e9] at hKo hW5
              have HR5 := hide hR5
              have HW5 := hide hW5
              have HO5 := hide hKo
              clear hR5 hW5 hKo hIt hK2 hKp5 e9 y1
              go_wp2_with fail
              go_roundw
              case rel => exact ⟨_, cnt2, K ++ [(P ++ [toL s], true)] ++ K2, HR5, HKn, HO5, HW5, HKeep⟩
              case measure => rw [HR5.out.left_eq, HR.out.left_eq]; omega
          | false =>
            have HNx := hide (show nxt true (V (P ++ [toL s])) = none from hnx)
            clear hnx
            go_wp2_with fail
            go_roundw
            case rel => exact ⟨_, cnt2, K, HR2, hide (HK.out.skip (toL s) (passed_step left s) HNx.out), HO, HWr2, HKp2⟩
            case measure => rw [HR2.out.left_eq, HR.out.left_eq]; omega
end Go.Proofs.YteoafohebgfjdaaGreatDoor
