/-
  Which texts are a pattern's: what the method Match, and the function Match, answer.
-/
import Derived.Test.YthlalmehcpionaaDoorGlobB
import Derived.Test.YthlalmehcpionaaDoorGlobParse
namespace Go.Proofs.YthlalmehcpionaaDoor
open Go.RowKit
attribute [local go_sem] World.setCell_drewN' World.alloc_drewN'

/-- From what is reached on, all of a text's bytes. -/
def matchR (l : List GPart) : (Nat → Bool) → List UInt8 → Bool
  | r, [] => r l.length
  | r, c :: u => if (stepN l r c.toNat l.length).2 then matchR l (stepN l r c.toNat l.length).1 u else false
def matchP (l : List GPart) (u : List UInt8) : Bool := matchR l (leR (lead l)) u

/-- The call's own two blocks: the pattern's, and what is reached (block A). -/
structure QMine (w wr : World) (A : Nat) (l : List GPart) (r : Nat → Bool) : Prop where
  below : Below w.heap.size w wr
  first : w.heap.size < A
  size : A < wr.heap.size
  pat : wr.heap[w.heap.size]? = some (.cells (patV l) 50 (0, 0))
  at_ : wr.heap[A]? = some (.cells (reachV r) 109 (0, 0))
section
variable {w wr w1 : World} {A : Nat} {l : List GPart} {r : Nat → Bool}
theorem QMine.after (h : QMine w wr A l r) (hb : Below wr.heap.size wr w1) : QMine w w1 A l r :=
  ⟨h.below.trans (hb.mono h.below.size), h.first, Nat.lt_of_lt_of_le h.size hb.size, (hb.block _ (by have := h.size; have := h.first; omega)).trans h.pat, (hb.block _ h.size).trans h.at_⟩
theorem QMine.put (h : QMine w wr A l r) (r' : Nat → Bool) : QMine w (wr.setRow A (reachV r')) A l r' :=
  ⟨below_setRow h.below (Nat.le_of_lt h.first) _, h.first, by simpa using h.size, (setRow_other _ _ _ _ (by have := h.first; omega)).trans h.pat, setRow_heap _ _ _ _ _ _ h.at_⟩
theorem QMine.other (h : QMine w wr A l r) (g : Nat) (cs : Array Value) (hg : A < g) : QMine w (wr.setRow g cs) A l r :=
  ⟨below_setRow h.below (by have := h.first; omega) _, h.first, by simpa using h.size, (setRow_other _ _ _ _ (by have := h.first; omega)).trans h.pat, (setRow_other _ _ _ _ (by omega)).trans h.at_⟩
theorem QMine.alloc (h : QMine w wr A l r) (o : Obj) : QMine w (wr.alloc o) A l r := h.after ((Below.refl _ _).alloc (Nat.le_refl _) o)
end

theorem matchR_end {l : List GPart} {r : Nat → Bool} {s : ByteArray} : matchR l r (s.data.toList.drop s.size) = r l.length := by
  rw [List.drop_of_length_le (by simp)]
  rfl
theorem matchR_step {l : List GPart} {r : Nat → Bool} {s : ByteArray} {k : Nat} (h : k < s.size) :
    matchR l r (s.data.toList.drop k) = if (stepN l r s[k].toNat l.length).2 then matchR l (stepN l r s[k].toNat l.length).1 (s.data.toList.drop (k + 1)) else false := by
  rw [drop_cons s k h, matchR]

set_option maxRecDepth 100000 in
set_option maxHeartbeats 600000 in
theorem matchM_any (l : List GPart) (s : ByteArray) (w : World) (hl : l.length ≤ 64) (hs : (s.size : Int) ≤ 9223372036854775806) :
    Calls Tryd.prog 60 #[.agg (patV l), .string s] w fun e w' => e = .returned (.bool (matchP l s.data.toList)) ∧ Below w.heap.size w w' := by
  have hz := zero_reach
  obtain ⟨R, hR⟩ : ∃ R, matchP l s.data.toList = R := ⟨_, rfl⟩
  rw [hR]
  have HR := hide hR
  clear hR
  go_enter Tryd.func60, Tryd.ntmps60
  go_wp2_with fail
  refine (start_any w.heap.size l _ hl (by simp) (heap_alloc_new _ _)).mono ?_
  rintro e w1 ⟨rfl, hb1⟩
  have hst := store_reach noneR (leR (lead l)) w1.heap.size (w1.alloc (Obj.cells (reachV noneR) 109)) (heap_alloc_new _ _)
  have hps := reachV_size (leR (lead l))
  go_wp2
  have hA : w.heap.size < w1.heap.size := by have := hb1.size; simp at this; omega
  have hM0 : QMine w ((w1.alloc (Obj.cells (reachV noneR) 109)).setRow w1.heap.size (reachV (leR (lead l)))) w1.heap.size l (leR (lead l)) :=
    ⟨below_setRow ((((Below.refl _ w).alloc (Nat.le_refl _) _).trans (hb1.mono (by simp))).alloc (Nat.le_of_lt hA) _) (Nat.le_of_lt hA) _, hA, by simp,
      (setRow_other _ _ _ _ (by omega)).trans ((Below.heap_alloc _ _ _ hA).trans ((hb1.block _ (by simp)).trans (heap_alloc_new _ _))), setRow_heap _ _ _ _ _ _ (heap_alloc_new _ _)⟩
  obtain ⟨A, eA⟩ : ∃ A, A = w1.heap.size := ⟨_, rfl⟩
  rw [← eA] at hM0 ⊢
  rw [← eA] at hA
  clear hst eA hb1 hA
  go_loopg [12] s.size (fun g i wr => ∃ (k : Nat) (r : Nat → Bool), i = .int .i64 k ∧ k + g = s.size ∧ Hid (matchR l r (s.data.toList.drop k) = R) ∧ QMine w wr A l r)
  case atStart => exact ⟨0, leR (lead l), rfl, by omega, HR.out, hM0⟩
  case round =>
    obtain ⟨k, r, rfl, hkg, HT, hM⟩ := hrel
    clear hM0 hps
    have HG := hide hkg
    cases gk with
    | zero =>
      obtain rfl : k = s.size := by omega
      have hfin : r l.length = R := by rw [← HT.out, matchR_end]
      have HF := hide hfin
      have n0 := pat_n hM.pat
      have x0 : wr.cell? ⟨A, l.length, none⟩ = some (.bool (r l.length)) := by rw [cell_of_row _ _ _ _ _ _ hM.at_, reachV_get _ _ (by omega)]
      have hl1 : (l.length : Int) < 65 := by omega
      clear hfin hkg
      go_wp2
      go_ret
      exact ⟨by rw [← HF.out]; rfl, hM.below⟩
    | succ g =>
      have hk : k < s.size := by omega
      have hk1 : (k : Int) < s.size := by omega
      have hc : ((s[k].toNat : Nat) : Int) < 256 := by have := s[k].toNat_lt; omega
      have hstep := step_any w.heap.size A l r s[k].toNat wr hc hl (by have := hM.size; have := hM.first; omega) hM.size hM.pat hM.at_
      have hT := HT.out
      rw [matchR_step hk] at hT
      obtain ⟨nx, h1⟩ : ∃ nx, (stepN l r s[k].toNat l.length).1 = nx := ⟨_, rfl⟩
      obtain ⟨sm, h2⟩ : ∃ sm, (stepN l r s[k].toNat l.length).2 = sm := ⟨_, rfl⟩
      rw [h1, h2] at hstep hT
      have HC := hide hstep
      clear hstep h1 h2 HT hkg
      cases sm with
      | false =>
        have hF : R = false := by simpa using hT.symm
        have HF := hide hF
        clear hT hF
        go_wp2_with fail
        refine HC.out.mono ?_
        rintro e w2 ⟨rfl, hb2⟩
        have hM2 := hM.after hb2
        have hst := store_reach noneR nx w2.heap.size (w2.alloc (Obj.cells (reachV noneR) 109)) (heap_alloc_new _ _)
        have hps := reachV_size nx
        go_wp2
        go_ret
        exact ⟨by rw [HF.out]; rfl, ((hM2.alloc _).other _ _ hM2.size).below⟩
      | true =>
        have HT := hide (show matchR l nx (s.data.toList.drop (k + 1)) = R by simpa using hT)
        clear hT
        go_wp2_with fail
        refine HC.out.mono ?_
        rintro e w2 ⟨rfl, hb2⟩
        have hM2 := hM.after hb2
        have hst := store_reach noneR nx w2.heap.size (w2.alloc (Obj.cells (reachV noneR) 109)) (heap_alloc_new _ _)
        have hps := reachV_size nx
        have hM3 := (hM2.alloc (Obj.cells (reachV noneR) 109)).other w2.heap.size (reachV nx) hM2.size
        have hst2 := store_reach r nx A _ hM3.at_
        have hld : ((w2.alloc (Obj.cells (reachV noneR) 109)).setRow w2.heap.size (reachV nx)).heap[w2.heap.size]? = some (.cells (reachV nx) 109 (0, 0)) := setRow_heap _ _ _ _ _ _ (heap_alloc_new _ _)
        have hsz : (Tryd.prog.info? 109).map (·.size) = some (reachV nx).size := by rw [info_reach, reachV_size]
        go_wp2_with (with_reducible refine wpList_load_row rfl 109 (.tmp 7) rfl w2.heap.size rfl 109 _ (0, 0) _ hld Tryd.underlying109 rfl hsz ?_)
        go_roundg g
        case rel => exact ⟨k + 1, nx, by go_num, by have := HG.out; omega, HT, hM3.put nx⟩
        case measure => omega

theorem parseN_len (k : Nat) : ∀ (L : List UInt8) (l : List GPart), parseN k L = some l → l.length ≤ L.length := by
  induction k with
  | zero =>
    intro L l h
    cases L with
    | nil => simp [parseN] at h; subst h; simp
    | cons c r => cases h
  | succ k ih =>
    intro L l h
    cases L with
    | nil => simp [parseN] at h; subst h; simp
    | cons c r =>
      rw [parseN_cons] at h
      cases hf : firstOf (c :: r) with
      | none => rw [hf] at h; cases h
      | some pn =>
        obtain ⟨p, n⟩ := pn
        have hn := firstOf_le _ _ _ hf
        rw [hf] at h
        simp only [Option.map_eq_some_iff] at h
        obtain ⟨l', hl', rfl⟩ := h
        have := ih _ _ hl'
        simp only [List.length_drop, List.length_cons] at *
        omega

/-- What the function Match answers. -/
def globM (p s : ByteArray) : Bool :=
  if 64 < p.size then false else
  match parseOf p.data.toList with
  | none => false
  | some l => matchP l s.data.toList

end Go.Proofs.YthlalmehcpionaaDoor
