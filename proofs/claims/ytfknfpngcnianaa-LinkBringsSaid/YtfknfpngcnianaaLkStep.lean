/-
  A call, by the program and by the reference: one step of a link's two ways.
-/
import Derived.Test.YtfknfpngcnianaaLkDo
import Derived.Test.YtfknfpngcnianaaLkRefDrop
import Derived.Test.YtfknfpngcnianaaLkRefDouble
import Derived.Test.YtfknfpngcnianaaLkRefTwice
import Derived.Test.YtfknfpngcnianaaLkRefTurn
namespace Go.Proofs.Ytfknfpngcnianaa
open Go.RowKit
set_option maxRecDepth 100000

/-- The two ways, by number. -/
def upd (s : Nat → Way) (k : Nat) (q : Way) : Nat → Way := fun j => if j = k then q else s j
theorem upd_same (s : Nat → Way) (k : Nat) (q : Way) : upd s k q k = q := by unfold upd; rw [if_pos rfl]
theorem upd_other (s : Nat → Way) (k j : Nat) (q : Way) (h : j ≠ k) : upd s k q j = s j := by unfold upd; rw [if_neg h]
def stepS (s : Nat → Way) (kd wy i at_ : Int) (mask : Nat) (b : List UInt8) : (Nat → Way) × List UInt8 × Bool :=
  if wy = 0 ∨ wy = 1 then (upd s wy.toNat (stepQ (s wy.toNat) kd i at_ mask b).1, (stepQ (s wy.toNat) kd i at_ mask b).2) else (s, [], false)
theorem stepS_bad (s : Nat → Way) (kd wy i at_ : Int) (mask : Nat) (b : List UInt8) (h0 : wy ≠ 0) (h1 : wy ≠ 1) : stepS s kd wy i at_ mask b = (s, [], false) := by unfold stepS; rw [if_neg (by omega)]
theorem stepS_way (s : Nat → Way) (kd : Int) (k : Nat) (hk : k < 2) (i at_ : Int) (mask : Nat) (b : List UInt8) : stepS s kd k i at_ mask b = (upd s k (stepQ (s k) kd i at_ mask b).1, (stepQ (s k) kd i at_ mask b).2) := by unfold stepS; rw [if_pos (by omega), Int.toNat_natCast]
theorem upd_id (s : Nat → Way) (k : Nat) : upd s k (s k) = s := by
  funext j
  unfold upd
  split
  · rename_i h; rw [h]
  · rfl

/-- What is small enough: counts up to n, packets of up to 100 bytes. -/
structure Good (s : Nat → Way) (n : Nat) : Prop where
  sent : ∀ k, (s k).sent ≤ n
  lost : ∀ k, (s k).lost ≤ n
  len : ∀ k, (s k).l.length ≤ 16
  bytes : ∀ k, ∀ p ∈ (s k).l, p.b.length ≤ 100
theorem turnL_len (l : List UInt8) (p : Int) (m : Nat) : (turnL l p m).length = l.length := by unfold turnL; rw [turnK_len]
theorem took_mem {q : Way} {i : Nat} {p : Pk} (h : p ∈ (q.took i).l) : p ∈ q.l := List.mem_of_mem_eraseIdx h
theorem took_few (q : Way) (i : Nat) : (q.took i).l.length ≤ q.l.length := List.length_eraseIdx_le _ _
theorem put_few (q : Way) (p : Pk) (h : q.l.length ≤ 16) : (q.put p).l.length ≤ 16 := by
  unfold Way.put
  split
  · rename_i e
    show ((q.took 0).l ++ [p]).length ≤ 16
    rw [List.length_append, took_len _ _ (by omega), e]
    exact Nat.le_refl 16
  · show (q.l ++ [p]).length ≤ 16
    rw [List.length_append]
    show q.l.length + 1 ≤ 16
    omega
theorem put_mem {q : Way} {p x : Pk} (h : x ∈ (q.put p).l) : x ∈ q.l ∨ x = p := by
  unfold Way.put at h
  split at h
  · rcases List.mem_append.1 h with h | h
    · exact .inl (took_mem h)
    · exact .inr (by simpa using h)
  · rcases List.mem_append.1 h with h | h
    · exact .inl h
    · exact .inr (by simpa using h)
theorem put_lost (q : Way) (p : Pk) : (q.put p).lost ≤ q.lost + 1 := by
  unfold Way.put
  split
  · exact Nat.le_refl _
  · exact Nat.le_succ _
theorem put_sent (q : Way) (p : Pk) : (q.put p).sent = q.sent := by
  unfold Way.put
  split <;> rfl
/-- One way keeps it. -/
theorem stepQ_good (q : Way) (kd i at_ : Int) (mask : Nat) (b : List UInt8) (n : Nat) (hs : q.sent ≤ n) (ho : q.lost ≤ n) (hl : q.l.length ≤ 16) (hb : ∀ p ∈ q.l, p.b.length ≤ 100) (hbb : b.length ≤ 100) :
    (stepQ q kd i at_ mask b).1.sent ≤ n + 1 ∧ (stepQ q kd i at_ mask b).1.lost ≤ n + 1 ∧ (stepQ q kd i at_ mask b).1.l.length ≤ 16 ∧ ∀ p ∈ (stepQ q kd i at_ mask b).1.l, p.b.length ≤ 100 := by
  by_cases h0 : kd = 0
  · subst h0
    rw [stepQ_send]
    refine ⟨?_, ?_, put_few _ _ hl, fun p hp => ?_⟩
    · rw [put_sent]; show q.sent + 1 ≤ n + 1; omega
    · exact Nat.le_trans (put_lost ({ q with sent := q.sent + 1 } : Way) ⟨b, false⟩) (Nat.succ_le_succ ho)
    · rcases put_mem hp with h | h
      · exact hb p h
      · rw [h]; exact hbb
  · by_cases ho2 : i < 0 ∨ (q.l.length : Int) ≤ i
    · rw [stepQ_out _ _ _ _ _ _ h0 ho2]
      exact ⟨Nat.le_succ_of_le hs, Nat.le_succ_of_le ho, hl, hb⟩
    · obtain ⟨j, rfl⟩ : ∃ j : Nat, i = j := ⟨i.toNat, by omega⟩
      have hj : j < q.l.length := by omega
      rw [stepQ_in q kd j at_ mask b q.l[j] h0 (List.getElem?_eq_getElem hj)]
      have hm : q.l[j] ∈ q.l := List.getElem_mem hj
      by_cases c1 : kd = 1
      · rw [if_pos c1]; exact ⟨Nat.le_succ_of_le hs, Nat.le_succ_of_le ho, Nat.le_trans (took_few _ _) hl, fun p hp => hb p (took_mem hp)⟩
      · rw [if_neg c1]
        by_cases c2 : kd = 2
        · rw [if_pos c2]; exact ⟨Nat.le_succ_of_le hs, Nat.succ_le_succ ho, Nat.le_trans (took_few _ _) hl, fun p hp => hb p (took_mem hp)⟩
        · rw [if_neg c2]
          by_cases c3 : kd = 3
          · rw [if_pos c3]
            refine ⟨?_, ?_, put_few _ _ hl, fun p hp => ?_⟩
            · rw [put_sent]; exact Nat.le_succ_of_le hs
            · exact Nat.le_trans (put_lost _ _) (Nat.succ_le_succ ho)
            · rcases put_mem hp with h | h
              · exact hb p h
              · rw [h]; exact hb _ hm
          · rw [if_neg c3]
            by_cases ct : q.l[j].t = true
            · rw [if_pos ct]; exact ⟨Nat.le_succ_of_le hs, Nat.le_succ_of_le ho, hl, hb⟩
            · rw [if_neg ct]
              refine ⟨Nat.le_succ_of_le hs, Nat.le_succ_of_le ho, by show (q.l.set j _).length ≤ 16; rw [List.length_set]; exact hl, fun p hp => ?_⟩
              rcases List.mem_or_eq_of_mem_set hp with h | h
              · exact hb p h
              · rw [h]; show (turnL _ _ _).length ≤ 100; rw [turnL_len]; exact hb _ hm
theorem Good.step {s : Nat → Way} {n : Nat} (h : Good s n) (kd wy i at_ : Int) (mask : Nat) (b : List UInt8) (hb : b.length ≤ 100) : Good (stepS s kd wy i at_ mask b).1 (n + 1) := by
  by_cases hw : wy = 0 ∨ wy = 1
  · have e : stepS s kd wy i at_ mask b = (upd s wy.toNat (stepQ (s wy.toNat) kd i at_ mask b).1, (stepQ (s wy.toNat) kd i at_ mask b).2) := by unfold stepS; rw [if_pos hw]
    rw [e]
    have H := stepQ_good (s wy.toNat) kd i at_ mask b n (h.sent _) (h.lost _) (h.len _) (h.bytes _) hb
    refine ⟨fun k => ?_, fun k => ?_, fun k => ?_, fun k => ?_⟩
    all_goals
      show _
      by_cases hk : k = wy.toNat
      · simp only [hk, upd_same]
        first | exact H.1 | exact H.2.1 | exact H.2.2.1 | exact H.2.2.2
      · simp only [upd_other _ _ _ _ hk]
        first | exact Nat.le_succ_of_le (h.sent _) | exact Nat.le_succ_of_le (h.lost _) | exact h.len _ | exact h.bytes _
  · rw [stepS_bad _ _ _ _ _ _ _ (by omega) (by omega)]
    exact ⟨fun k => Nat.le_succ_of_le (h.sent k), fun k => Nat.le_succ_of_le (h.lost k), h.len, h.bytes⟩

/-- A link in a block of its own. -/
def Lk (w : World) (g : Nat) (s : Nat → Way) : Prop := ∃ C, C.size = 70 ∧ In w g 0 C (s 0) ∧ In w g 35 C (s 1)
theorem QAt.same {C D : Array Value} {o : Nat} {q : Way} (h : QAt C o q) (hd : ∀ j, o ≤ j → j < o + 35 → D[j]? = C[j]?) : QAt D o q :=
  ⟨fun i hi => (hd _ (by omega) (by omega)).trans (h.d i hi), fun i hi => (hd _ (by omega) (by omega)).trans (h.t i hi), (hd _ (by omega) (by omega)).trans h.n, (hd _ (by omega) (by omega)).trans h.sent, (hd _ (by omega) (by omega)).trans h.lost⟩
theorem Lk.at_ {w : World} {g k : Nat} {s : Nat → Way} (h : Lk w g s) (hk : k < 2) : ∃ C, C.size = 70 ∧ In w g (k * 35) C (s k) ∧ ∀ q w', QTo w g (k * 35) C q w' → Lk w' g (upd s k q) ∧ w.grownBy w' (some g) := by
  obtain ⟨C, hC, h0, h1⟩ := h
  have hk2 : k = 0 ∨ k = 1 := by omega
  rcases hk2 with rfl | rfl
  · refine ⟨C, hC, h0, fun q w' hq => ?_⟩
    obtain ⟨D, k1, k2, k3, k4⟩ := hq
    exact ⟨⟨D, k3.trans hC, by rw [upd_same]; exact k2, by
      rw [upd_other _ _ _ _ (by decide)]
      exact ⟨k2.row, by rw [k3, hC]; decide, k2.one, h1.at_.same (fun j a b => k4 j (by omega)), h1.few⟩⟩, k1.2⟩
  · refine ⟨C, hC, h1, fun q w' hq => ?_⟩
    obtain ⟨D, k1, k2, k3, k4⟩ := hq
    exact ⟨⟨D, k3.trans hC, by
      rw [upd_other _ _ _ _ (by decide)]
      exact ⟨k2.row, by rw [k3, hC]; decide, k2.one, h0.at_.same (fun j a b => k4 j (by omega)), h0.few⟩, by rw [upd_same]; exact k2⟩, k1.2⟩
theorem Lk.row {w : World} {g : Nat} {s : Nat → Way} (h : Lk w g s) : ∃ C, w.heap[g]? = some (.cells C 56 (0, 0)) := by
  obtain ⟨C, _, h0, _⟩ := h
  exact ⟨C, h0.row⟩
theorem Lk.lt {w : World} {g : Nat} {s : Nat → Way} (h : Lk w g s) : g < w.heap.size := by
  obtain ⟨C, hC⟩ := h.row
  exact (Array.getElem?_eq_some_iff.1 hC).1
theorem Lk.below {w w' : World} {g : Nat} {s : Nat → Way} (h : Lk w g s) (hB : Below w.heap.size w w') : Lk w' g s := by
  obtain ⟨C, hC, h0, h1⟩ := h
  exact ⟨C, hC, h0.alloc hB, h1.alloc hB⟩
/-- What a call leaves of a link. -/
def Done (w : World) (g : Nat) (r : (Nat → Way) × List UInt8 × Bool) (e : Ending) (w' : World) : Prop :=
  e = .returned (.tuple #[.string (ofL r.2.1), .bool r.2.2]) ∧ Lk w' g r.1 ∧ w.grownBy w' (some g)
theorem grown_of_below {w w' : World} {g : Nat} (hB : Below w.heap.size w w') : w.grownBy w' (some g) := ⟨hB.os, hB.tape, hB.output, hB.size, fun k hk _ => hB.block k hk⟩

theorem do_any (g : Nat) (s : Nat → Way) (kd wy i at_ : Int) (mask : Nat) (b : List UInt8) (n : Nat) (w : World) (h : Lk w g s) (hg : Good s n) (hn : n ≤ 1000) (ha1 : -9223372036854775808 ≤ at_) (ha2 : at_ ≤ 9223372036854775807) (hm : mask < 4294967296) :
    Calls Try.prog 8 #[.pointer (some ⟨g, 0, none⟩), .agg (actC kd wy i at_ mask b)] w (Done w g (stepS s kd wy i at_ mask b)) := by
  by_cases hw : wy = 0 ∨ wy = 1
  · obtain ⟨k, rfl, hk⟩ : ∃ k : Nat, wy = k ∧ k < 2 := ⟨wy.toNat, by omega, by omega⟩
    rw [stepS_way _ _ _ hk]
    obtain ⟨C, hC, hI, hQ⟩ := h.at_ hk
    have hon : On (.pointer (some ⟨g, 0, none⟩)) k (some ⟨g, k * 35, none⟩) := fun W => on_in g k hk W
    have hlo := hg.lost k
    have hse := hg.sent k
    have hsame : ∀ w', Below w.heap.size w w' → Lk w' g (upd s k (s k)) ∧ w.grownBy w' (some g) := fun w' hB => by rw [upd_id]; exact ⟨h.below hB, grown_of_below hB⟩
    by_cases h0 : kd = 0
    · subst h0
      rw [stepQ_send]
      refine (doSend_in k hk i at_ mask b _ g (k * 35) C (s k) w hon hI (by omega) (by omega)).mono ?_
      rintro e w' ⟨rfl, hq⟩
      exact ⟨rfl, hQ _ _ hq⟩
    · by_cases hout : i < 0 ∨ ((s k).l.length : Int) ≤ i
      · rw [stepQ_out _ _ _ _ _ _ h0 hout]
        have hat : ∀ W, Below w.heap.size w W → At (.pointer (some ⟨g, 0, none⟩)) k i none W := fun W hB => at_out _ _ _ g (k * 35) C (s k) W hon (hI.alloc hB) hout
        have fin : ∀ e w', (e = .returned (.tuple #[.string ⟨#[]⟩, .bool false]) ∧ Below w.heap.size w w') → Done w g (upd s k (s k), [], false) e w' := by
          rintro e w' ⟨rfl, hB⟩
          exact ⟨rfl, hsame _ hB⟩
        by_cases c1 : kd = 1
        · subst c1; exact (doDeliver_none k i at_ mask b _ w hat).mono fin
        · by_cases c2 : kd = 2
          · subst c2; exact (doDrop_none k i at_ mask b _ w hat).mono fin
          · by_cases c3 : kd = 3
            · subst c3; exact (doDouble_none k i at_ mask b _ w hat).mono fin
            · exact (doTurn_none kd h0 c1 c2 c3 k i at_ mask b _ w hat).mono fin
      · obtain ⟨j, rfl⟩ : ∃ j : Nat, i = j := ⟨i.toNat, by omega⟩
        have hj : j < (s k).l.length := by omega
        have hp := List.getElem?_eq_getElem hj
        have hpb := hg.bytes k _ (List.getElem_mem hj)
        have hat : ∀ W, Below w.heap.size w W → At (.pointer (some ⟨g, 0, none⟩)) k j (some ⟨g, k * 35, none⟩) W := fun W hB => at_in _ _ j g (k * 35) C (s k) W hon (hI.alloc hB) hj
        rw [stepQ_in (s k) kd j at_ mask b _ h0 hp]
        by_cases c1 : kd = 1
        · rw [if_pos c1]; subst c1
          refine (doDeliver_in k at_ mask b _ j g (k * 35) C (s k) _ w hat hI hj hp).mono ?_
          rintro e w' ⟨rfl, hq⟩
          exact ⟨rfl, hQ _ _ hq⟩
        · rw [if_neg c1]
          by_cases c2 : kd = 2
          · rw [if_pos c2]; subst c2
            refine (doDrop_in k at_ mask b _ j g (k * 35) C (s k) w hat hI hj (by omega)).mono ?_
            rintro e w' ⟨rfl, hq⟩
            exact ⟨rfl, hQ _ _ hq⟩
          · rw [if_neg c2]
            by_cases c3 : kd = 3
            · rw [if_pos c3]; subst c3
              refine (doDouble_in k at_ mask b _ j g (k * 35) C (s k) _ w hat hI hj hp (by omega)).mono ?_
              rintro e w' ⟨rfl, hq⟩
              exact ⟨rfl, hQ _ _ hq⟩
            · rw [if_neg c3]
              by_cases ct : (s k).l[j].t = true
              · rw [if_pos ct]
                have htr : (s k).trn j = true := by unfold Way.trn; rw [hp]; exact ct
                refine (doTurn_twice kd h0 c1 c2 c3 k at_ mask b _ j g (k * 35) C (s k) w hat hI hj htr).mono ?_
                rintro e w' ⟨rfl, hB⟩
                exact ⟨rfl, hsame _ hB⟩
              · rw [if_neg ct]
                refine (doTurn_in kd h0 c1 c2 c3 k at_ mask b _ j g (k * 35) C (s k) _ w hat hI hj hp (by simpa using ct) (by omega) ha1 ha2 hm).mono ?_
                rintro e w' ⟨rfl, hq⟩
                exact ⟨rfl, hQ _ _ hq⟩
  · have h0 : wy ≠ 0 := by omega
    have h1 : wy ≠ 1 := by omega
    rw [stepS_bad _ _ _ _ _ _ _ h0 h1]
    have hon : On (.pointer (some ⟨g, 0, none⟩)) wy none := fun W => on_bad g wy (by omega) W
    have hat : ∀ W, Below w.heap.size w W → At (.pointer (some ⟨g, 0, none⟩)) wy i none W := fun W _ => at_none _ _ _ W hon
    have fin : ∀ e w', (e = .returned (.tuple #[.string ⟨#[]⟩, .bool false]) ∧ Below w.heap.size w w') → Done w g (s, [], false) e w' := by
      rintro e w' ⟨rfl, hB⟩
      exact ⟨rfl, h.below hB, grown_of_below hB⟩
    by_cases c0 : kd = 0
    · subst c0; exact (doSend_none wy i at_ mask b _ w hon h0 h1).mono fin
    · by_cases c1 : kd = 1
      · subst c1; exact (doDeliver_none wy i at_ mask b _ w hat).mono fin
      · by_cases c2 : kd = 2
        · subst c2; exact (doDrop_none wy i at_ mask b _ w hat).mono fin
        · by_cases c3 : kd = 3
          · subst c3; exact (doDouble_none wy i at_ mask b _ w hat).mono fin
          · exact (doTurn_none kd c0 c1 c2 c3 wy i at_ mask b _ w hat).mono fin

/-- The reference's state reads so. -/
def Rs (w : World) (X : Array Value) (s : Nat → Way) : Prop := X.size = 6 ∧ (∀ v ∈ X.toList, v.oneCell' = true) ∧ ∀ k, k < 2 → ∃ A c, SAt w X k (s k) A c
theorem Rs.step {w w' : World} {X : Array Value} {s : Nat → Way} (h : Rs w X s) (hB : Below w.heap.size w w') : Rs w' X s :=
  ⟨h.1, h.2.1, fun k hk => by obtain ⟨A, c, h3⟩ := h.2.2 k hk; exact ⟨A, c, h3.step hB⟩⟩
theorem Rs.upd {w w' : World} {X X' : Array Value} {s : Nat → Way} {k : Nat} {q : Way} (h : Rs w X s) (hk : k < 2) (hT : STo w X k q X' w') : Rs w' X' (upd s k q) ∧ Below w.heap.size w w' := by
  obtain ⟨A, c, h1, h2, h3, h4, h5, _⟩ := hT
  refine ⟨⟨h1, h2, fun j hj => ?_⟩, h5⟩
  by_cases e : j = k
  · subst e; rw [upd_same]; exact ⟨A, c, h3⟩
  · rw [upd_other _ _ _ _ e]
    obtain ⟨B, d, q1⟩ := h.2.2 j hj
    exact ⟨B, d, ⟨(h4 _ e (by omega) (by omega)).trans q1.row, (h4 _ (by omega) (by omega) (by omega)).trans q1.sent, (h4 _ (by omega) (by omega) (by omega)).trans q1.lost, q1.cap, (q1.step h5).rd⟩⟩
/-- Its packets lie at L or above. -/
def Up (L : Nat) (X : Array Value) : Prop := ∀ k, k < 2 → ∀ A n c, X[k]? = some (.slice A n c) → ∀ ad, A = some ad → L ≤ ad.block
theorem Up.to {w w' : World} {X X' : Array Value} {s : Nat → Way} {k L : Nat} {q : Way} (h : Up L X) (hR : Rs w X s) (hL : L ≤ w.heap.size) (hk : k < 2) (hT : STo w X k q X' w') : Up L X' := by
  obtain ⟨A, c, h1, h2, h3, h4, h5, h6⟩ := hT
  intro j hj B n d hx ad e
  by_cases ej : j = k
  · subst ej
    rw [h3.row] at hx
    injection hx with hx
    injection hx with hx _ _
    subst hx
    rcases h6 with ⟨n2, c2, h6⟩ | h6
    · exact h j hj _ _ _ h6 ad e
    · exact Nat.le_trans hL (h6 ad e)
  · have := hR.1
    rw [h4 j ej (by omega) (by omega)] at hx
    exact h j hj _ _ _ hx ad e
/-- What the reference's call tells. -/
def Told (w : World) (X : Array Value) (r : (Nat → Way) × List UInt8 × Bool) (e : Ending) (w' : World) : Prop :=
  ∃ X', e = .returned (.tuple #[.agg X', .string (ofL r.2.1), .bool r.2.2]) ∧ Rs w' X' r.1 ∧ Below w.heap.size w w' ∧ ∀ L, L ≤ w.heap.size → Up L X → Up L X'
theorem refDo_any (X : Array Value) (s : Nat → Way) (kd wy i at_ : Int) (mask : Nat) (b : List UInt8) (n : Nat) (w : World) (h : Rs w X s) (hg : Good s n) (hn : n ≤ 1000) (ha1 : -9223372036854775808 ≤ at_) (ha2 : at_ ≤ 9223372036854775807) (hm : mask < 4294967296) :
    Calls Try.prog 9 #[.agg X, .agg (actC kd wy i at_ mask b)] w (Told w X (stepS s kd wy i at_ mask b)) := by
  by_cases hw : wy = 0 ∨ wy = 1
  · obtain ⟨k, rfl, hk⟩ : ∃ k : Nat, wy = k ∧ k < 2 := ⟨wy.toNat, by omega, by omega⟩
    rw [stepS_way _ _ _ hk]
    obtain ⟨A, c, hS⟩ := h.2.2 k hk
    have hlo := hg.lost k
    have hse := hg.sent k
    have fin : ∀ (q : Way) (l : List UInt8) (t : Bool) e w', (∃ X', e = .returned (.tuple #[.agg X', .string (ofL l), .bool t]) ∧ STo w X k q X' w') → Told w X (upd s k q, l, t) e w' := by
      rintro q l t e w' ⟨X', rfl, hT⟩
      exact ⟨X', rfl, (h.upd hk hT).1, (h.upd hk hT).2, fun L hL hu => hu.to h hL hk hT⟩
    by_cases h0 : kd = 0
    · subst h0
      rw [stepQ_send]
      exact (refDo_send k hk i at_ mask b X (s k) A c w h.1 h.2.1 hS (hg.len k) (by omega) (by omega)).mono (fin _ [] true)
    · by_cases hout : i < 0 ∨ ((s k).l.length : Int) ≤ i
      · rw [stepQ_out _ _ _ _ _ _ h0 hout]
        refine (refDo_out k hk kd i at_ mask b X (s k) A c w h.1 h.2.1 hS h0 hout).mono ?_
        rintro e w' ⟨rfl, hB⟩
        exact ⟨X, rfl, by show Rs _ _ (Go.Proofs.Ytfknfpngcnianaa.upd s k (s k)); rw [upd_id]; exact h.step hB, hB, fun _ _ hu => hu⟩
      · obtain ⟨j, rfl⟩ : ∃ j : Nat, i = j := ⟨i.toNat, by omega⟩
        have hj : j < (s k).l.length := by omega
        have hp := List.getElem?_eq_getElem hj
        have hpb := hg.bytes k _ (List.getElem_mem hj)
        rw [stepQ_in (s k) kd j at_ mask b _ h0 hp]
        by_cases c1 : kd = 1
        · rw [if_pos c1]; subst c1
          exact (refDeliver_in k hk j at_ mask b X (s k) _ A c w h.1 h.2.1 hS (hg.len k) (by omega) hp).mono (fin _ _ true)
        · rw [if_neg c1]
          by_cases c2 : kd = 2
          · rw [if_pos c2]; subst c2
            exact (refDrop_in k hk j at_ mask b X (s k) _ A c w h.1 h.2.1 hS (hg.len k) (by omega) hp).mono (fin _ [] true)
          · rw [if_neg c2]
            by_cases c3 : kd = 3
            · rw [if_pos c3]; subst c3
              exact (refDouble_in k hk j at_ mask b X (s k) _ A c w h.1 h.2.1 hS (hg.len k) (by omega) hp).mono (fin _ [] true)
            · rw [if_neg c3]
              by_cases ct : (s k).l[j].t = true
              · rw [if_pos ct]
                exact (refTwice_in k hk kd j at_ mask b X (s k) _ A c w h.1 h.2.1 hS (hg.len k) (by omega) hp h0 c1 c2 c3 ct).mono (fin _ [] false)
              · rw [if_neg ct]
                exact (refTurn_in k hk kd j at_ mask b X (s k) _ A c w h.1 h.2.1 hS (hg.len k) (by omega) hp h0 c1 c2 c3 (by simpa using ct) (by omega) ha1 ha2 hm).mono (fin _ [] true)
  · have h0 : wy ≠ 0 := by omega
    have h1 : wy ≠ 1 := by omega
    rw [stepS_bad _ _ _ _ _ _ _ h0 h1]
    refine (refDo_bad kd wy i at_ mask b X w h.1 h.2.1 h0 h1).mono ?_
    rintro e w' ⟨rfl, hB⟩
    exact ⟨X, rfl, h.step hB, hB, fun _ _ hu => hu⟩
end Go.Proofs.Ytfknfpngcnianaa
