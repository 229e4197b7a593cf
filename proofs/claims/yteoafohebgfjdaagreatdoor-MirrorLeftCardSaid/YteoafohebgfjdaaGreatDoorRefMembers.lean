/-
  The reference's members: a set behind its bracket, and where the next part begins.
-/
import Derived.Test.YteoafohebgfjdaaGreatDoorAutoRuleSpec
import Derived.Test.YteoafohebgfjdaaGreatDoorAutoRefRows
import Derived.Deep.DeepCutAuto
import Derived.Deep.LoopGhost
import Derived.Deep.QuietTactic
import Derived.BigQuiet
namespace Go.Proofs.YteoafohebgfjdaaGreatDoor
open Go.RowKit
set_option maxRecDepth 100000

/-- The call's own blocks: the answer's, still zero, and the part's, with its set. -/
structure PMem (w wr : World) (v : Value) (no : Bool) (ins : List UInt8) : Prop where
  below : Below w.heap.size w wr
  size : w.heap.size + 1 < wr.heap.size
  out : wr.heap[w.heap.size]? = some (.cells #[.int .i64 0, .slice none 0 0, .bool false, .bool false] 121 (0, 0))
  part : wr.heap[w.heap.size + 1]? = some (.cells #[.int .i64 0, v, .bool no, .bool false] 121 (0, 0))
  own : wr.ownsRow (w.heap.size + 2) 5 1 v ins.length (ins.map byteV)

theorem PMem.drew {w wr : World} {v : Value} {no : Bool} {ins : List UInt8} (h : PMem w wr v no ins) : PMem w wr.drew v no ins := ⟨below_drew h.below, h.size, h.out, h.part, h.own⟩
theorem PMem.drewN {w wr : World} {v : Value} {no : Bool} {ins : List UInt8} (h : PMem w wr v no ins) (n : Nat) : PMem w (wr.drewN n) v no ins := ⟨below_drewN h.below n, h.size, h.out, h.part, h.own⟩

/-- What a member and the next one begin with: the bytes from x to y, and how many bytes stand for them. -/
def spanAt (s : ByteArray) (k : Nat) (y : UInt8) (st : Nat) : Prop :=
  (∃ h2 : k + 2 < s.size, (s[k + 1].toNat : Int) = 45 ∧ (s[k + 2].toNat : Int) ≠ 93 ∧ y = s[k + 2] ∧ st = 3) ∨
  ((∀ h2 : k + 2 < s.size, (s[k + 1].toNat : Int) = 45 → (s[k + 2].toNat : Int) = 93) ∧ (∃ h : k < s.size, y = s[k]) ∧ st = 1)
theorem cls_next {s : ByteArray} {k : Nat} {P : Nat → Bool} {f : Bool} {y : UInt8} {st : Nat} (h : k < s.size) (h1 : (s[k].toNat : Int) ≠ 93) (hs : spanAt s k y st) (hm : memb s[k] = true) (hy : memb y = true) (hlt : ¬ y.toNat < s[k].toNat) :
    cls P f k (s.data.toList.drop k) = cls (fun x => P x || spanP s[k].toNat (y.toNat + 1) x) false (k + st) (s.data.toList.drop (k + st)) ∧ k + st ≤ s.size := by
  rcases hs with ⟨h2, e1, e2, rfl, rfl⟩ | ⟨hn, ⟨_, rfl⟩, rfl⟩
  · exact ⟨cls_range h2 h1 hm e1 e2 hy hlt, by omega⟩
  · exact ⟨cls_one h h1 hm hn, by omega⟩
theorem cls_not {s : ByteArray} {k : Nat} {P : Nat → Bool} {f : Bool} {y : UInt8} {st : Nat} (h : k < s.size) (h1 : (s[k].toNat : Int) ≠ 93) (hs : spanAt s k y st) (hb : memb s[k] = false ∨ memb y = false ∨ y.toNat < s[k].toNat) :
    cls P f k (s.data.toList.drop k) = none := by
  cases hm : memb s[k] with
  | false => exact cls_bad h h1 hm
  | true =>
    rcases hs with ⟨h2, e1, e2, rfl, rfl⟩ | ⟨hn, ⟨_, rfl⟩, rfl⟩
    · refine cls_range_bad h2 h1 hm e1 e2 ?_
      rcases hb with hb | hb | hb
      · rw [hm] at hb; cases hb
      · exact .inl hb
      · exact .inr hb
    · rcases hb with hb | hb | hb
      · rw [hm] at hb; cases hb
      · rw [hm] at hb; cases hb
      · omega
theorem okay_memb (x : UInt8) (w : World) : Calls Tryz.prog 111 #[.int .u8 x.toNat] w fun e w' => e = .returned (.bool (memb x)) ∧ w' = w := by
  have h := okay_any x w
  have e : (!(x == 93) && !(x == 91) && !(x == 47) && !(x == 92)) = memb x := by
    unfold memb
    cases (x == 93) <;> cases (x == 91) <;> cases (x == 47) <;> cases (x == 92) <;> rfl
  rw [e] at h
  exact h

/-- Does a class say 'not'? -/
def notAt (s : ByteArray) (k : Nat) : Bool := Lib.hasPrefix (s.data.toList.drop (k + 1)) [33]
theorem notAt_out (s : ByteArray) (k : Nat) (h : ¬ k + 1 < s.size) : notAt s k = false := by
  unfold notAt
  rw [List.drop_of_length_le (by simp; omega)]; rfl
theorem notAt_yes (s : ByteArray) (k : Nat) (h : k + 1 < s.size) (hc : (s[k + 1].toNat : Int) = 33) : notAt s k = true := by
  unfold notAt
  rw [drop_cons s (k + 1) h, show s[k + 1] = 33 from u8_eq hc]; rfl
theorem notAt_no (s : ByteArray) (k : Nat) (h : k + 1 < s.size) (hc : (s[k + 1].toNat : Int) ≠ 33) : notAt s k = false := by
  unfold notAt
  have e : (s[k + 1] == 33) = false := u8_ne hc
  have e2 : ((33 : UInt8) == s[k + 1]) = false := by
    rw [beq_eq_false_iff_ne] at e ⊢
    exact fun h => e h.symm
  rw [drop_cons s (k + 1) h]
  show ((33 == s[k + 1]) && _) = false
  rw [e2]; rfl

/-- What members answers. -/
def MemR (s : ByteArray) (k : Nat) (w : World) (e : Ending) (w' : World) : Prop :=
  Below w.heap.size w w' ∧ match classOf ((toL s).drop k) with
    | none => e = .returned (.tuple #[.agg #[.int .i64 0, .slice none 0 0, .bool false, .bool false], .int .i64 (-1)])
    | some (q, n) => ∃ (p : RPart) (A : Option Addr) (c : Nat), e = .returned (.tuple #[p.V A c, .int .i64 ((k + n : Nat) : Int)]) ∧ SameG (gOf p) q ∧ (∃ X, w'.ownsRow X 5 1 (.slice A p.ins.length c) p.ins.length (p.ins.map byteV)) ∧ p.ins.length ≤ 100000
theorem memR_none {s : ByteArray} {k : Nat} {w w' : World} {e : Ending} (h : classOf ((toL s).drop k) = none) (hb : Below w.heap.size w w') (he : e = .returned (.tuple #[.agg #[.int .i64 0, .slice none 0 0, .bool false, .bool false], .int .i64 (-1)])) : MemR s k w e w' := by
  unfold MemR; rw [h]; exact ⟨hb, he⟩

section
variable {w wr : World} {v : Value} {no : Bool} {ins : List UInt8} (h : PMem w wr v no ins)
include h
theorem PMem.p0 : wr.cell? ⟨w.heap.size + 1, 0, none⟩ = some (.int .i64 0) := cell_of_row _ _ _ _ _ _ h.part
theorem PMem.p1 : wr.cell? ⟨w.heap.size + 1, 1, none⟩ = some v := cell_of_row _ _ _ _ _ _ h.part
theorem PMem.p2 : wr.cell? ⟨w.heap.size + 1, 2, none⟩ = some (.bool no) := cell_of_row _ _ _ _ _ _ h.part
theorem PMem.p3 : wr.cell? ⟨w.heap.size + 1, 3, none⟩ = some (.bool false) := cell_of_row _ _ _ _ _ _ h.part
theorem PMem.pf (j : Nat) : wr.frozen? ⟨w.heap.size + 1, j, none⟩ = false := frozen_of_row _ _ _ _ _ h.part
theorem PMem.o0 : wr.cell? ⟨w.heap.size, 0, none⟩ = some (.int .i64 0) := cell_of_row _ _ _ _ _ _ h.out
theorem PMem.o1 : wr.cell? ⟨w.heap.size, 1, none⟩ = some (.slice none 0 0) := cell_of_row _ _ _ _ _ _ h.out
theorem PMem.o2 : wr.cell? ⟨w.heap.size, 2, none⟩ = some (.bool false) := cell_of_row _ _ _ _ _ _ h.out
theorem PMem.o3 : wr.cell? ⟨w.heap.size, 3, none⟩ = some (.bool false) := cell_of_row _ _ _ _ _ _ h.out
theorem PMem.of_ (j : Nat) : wr.frozen? ⟨w.heap.size, j, none⟩ = false := frozen_of_row _ _ _ _ _ h.out
theorem PMem.four (i0 i1 i2 i3 : Nat) (u0 u1 u2 u3 : Value) : Below w.heap.size w ((((wr.setCell ⟨w.heap.size, i0, none⟩ u0).setCell ⟨w.heap.size, i1, none⟩ u1).setCell ⟨w.heap.size, i2, none⟩ u2).setCell ⟨w.heap.size, i3, none⟩ u3) :=
  (((h.below.setCell (Nat.le_refl _) _).setCell (Nat.le_refl _) _).setCell (Nat.le_refl _) _).setCell (Nat.le_refl _) _
theorem PMem.own4 (i0 i1 i2 i3 : Nat) (u0 u1 u2 u3 : Value) : World.ownsRow ((((wr.setCell ⟨w.heap.size, i0, none⟩ u0).setCell ⟨w.heap.size, i1, none⟩ u1).setCell ⟨w.heap.size, i2, none⟩ u2).setCell ⟨w.heap.size, i3, none⟩ u3) (w.heap.size + 2) 5 1 v ins.length (ins.map byteV) :=
  ownsRow_setCell_below (ownsRow_setCell_below (ownsRow_setCell_below (ownsRow_setCell_below h.own (by simp) _) (by simp) _) (by simp) _) (by simp) _
theorem PMem.more {w' : World} {o : Obj} {v' : Value} (x : UInt8) (ho : w'.ownsRow (w.heap.size + 2) 5 1 v' (ins.length + 1) (ins.map byteV ++ [byteV x])) (hg : (wr.alloc o).grownBy w' v.ownBlock) :
    PMem w (w'.setCell ⟨w.heap.size + 1, 1, none⟩ v') v' no (ins ++ [x]) := by
  have hz := h.size
  have hlt := h.own.lt
  have e0 : w'.heap[w.heap.size]? = some (.cells #[.int .i64 0, .slice none 0 0, .bool false, .bool false] 121 (0, 0)) := by
    rw [hg.block _ (by simp; omega) (fun e => by have := hlt _ e.symm; omega), Below.heap_alloc _ _ _ (by omega)]; exact h.out
  have e1 : w'.heap[w.heap.size + 1]? = some (.cells #[.int .i64 0, v, .bool no, .bool false] 121 (0, 0)) := by
    rw [hg.block _ (by simp; omega) (fun e => by have := hlt _ e.symm; omega), Below.heap_alloc _ _ _ hz]; exact h.part
  have hs := hg.size
  refine ⟨((h.below.alloc h.below.size _).grown hg (by simp; omega) (fun r e => by have := hlt r e; omega)).setCell (by simp) _, ?_, ?_, ?_, ?_⟩
  · simp only [World.setCell, Array.size_modify]
    simp at hs; omega
  · exact (heap_setCell_other _ _ _ _ (by simp)).trans e0
  · exact heap_setCell_same _ _ _ _ _ _ e1
  · rw [List.length_append, List.map_append]
    exact ownsRow_setCell_below ho (by simp) _
theorem PMem.still {w' : World} {o : Obj} (hg : (wr.alloc o).grownBy w' v.ownBlock) : w'.heap[w.heap.size + 1]? = some (.cells #[.int .i64 0, v, .bool no, .bool false] 121 (0, 0)) := by
  have hz := h.size
  have hlt := h.own.lt
  rw [hg.block _ (by simp; omega) (fun e => by have := hlt _ e.symm; omega), Below.heap_alloc _ _ _ hz]; exact h.part
end
theorem memR_some {s : ByteArray} {k n : Nat} {q : GPart} {w w' : World} {e : Ending} (p : RPart) (A : Option Addr) (c : Nat) (h : classOf ((toL s).drop k) = some (q, n)) (hb : Below w.heap.size w w')
    (he : e = .returned (.tuple #[p.V A c, .int .i64 ((k + n : Nat) : Int)])) (hq : SameG (gOf p) q) (hr : ∃ X, w'.ownsRow X 5 1 (.slice A p.ins.length c) p.ins.length (p.ins.map byteV)) (hl : p.ins.length ≤ 100000) : MemR s k w e w' := by
  unfold MemR; rw [h]; exact ⟨hb, p, A, c, he, hq, hr, hl⟩

set_option maxHeartbeats 16000000 in
theorem members_any (s : ByteArray) (k1 : Nat) (w : World) (hk : k1 < s.size) (hs : (s.size : Int) ≤ 64) :
    Calls Tryz.prog 103 #[.string s, .int .i64 ((k1 + 1 : Nat) : Int)] w (MemR s k1 w) := by
  obtain ⟨i0, hi, hz0, hz1, hz2⟩ := info_parts info_byte
  obtain ⟨no, hno⟩ : ∃ no, no = notAt s k1 := ⟨_, rfl⟩
  obtain ⟨b, hb⟩ : ∃ b, b = if no then k1 + 2 else k1 + 1 := ⟨_, rfl⟩
  have hcl := classOf_at (toL s) k1 no hno.symm b hb
  obtain ⟨R, hR⟩ : ∃ R, R = cls emptyP true b ((toL s).drop b) := ⟨_, rfl⟩
  rw [← hR] at hcl
  have HN := hide (show R = none → ∀ e w', Below w.heap.size w w' → e = .returned (.tuple #[.agg #[.int .i64 0, .slice none 0 0, .bool false, .bool false], .int .i64 (-1)]) → MemR s k1 w e w' from
    fun h e w' h1 h2 => memR_none (by rw [hcl, h]) h1 h2)
  have HY := hide (show ∀ (P : Nat → Bool) (k : Nat), R = some (P, k) → k1 ≤ k + 1 → ∀ e w' ins A c, InsOf ins P → Below w.heap.size w w' → e = .returned (.tuple #[(RPart.mk 0 ins no false).V A c, .int .i64 ((k + 1 : Nat) : Int)]) → (∃ X, w'.ownsRow X 5 1 (.slice A ins.length c) ins.length (ins.map byteV)) → ins.length ≤ 100000 → MemR s k1 w e w' from
    fun P k h hk e w' ins A c hin h1 h2 h3 h4 => memR_some ⟨0, ins, no, false⟩ A c (by rw [hcl, h]) h1 (by rw [show k1 + (k + 1 - k1) = k + 1 by omega]; exact h2) (class_same hin no) h3 h4)
  have HR := hide hR
  have hbs : k1 + 1 ≤ b ∧ b ≤ s.size := by
    rw [hb]
    cases hn : no with
    | false => simp; omega
    | true =>
      simp only [if_true]
      by_cases h : k1 + 1 < s.size
      · omega
      · rw [hno, notAt_out s k1 h] at hn; cases hn
  obtain ⟨hb1, hbs⟩ := hbs
  clear hR hcl
  obtain ⟨g, hg⟩ : ∃ g, g = k1 + 1 := ⟨_, rfl⟩
  have hgw : IntKind.i64.wrap ((g : Int) + 1) = ((g + 1 : Nat) : Int) := by rw [IntWalk.i64_in _ (by omega)]; rfl
  have hgs : (g : Int) ≤ s.size := by omega
  have P0 : PMem w ((w.alloc (.cells #[.int .i64 0, .slice none 0 0, .bool false, .bool false] 121)).alloc (.cells #[.int .i64 0, .slice none 0 0, .bool no, .bool false] 121)) (.slice none 0 0) no [] :=
    ⟨((Below.refl _ _).alloc (Nat.le_refl _) _).alloc (by simp) _, by simp, heap_alloc2_old _ _ _, heap_alloc2_new _ _ _, World.ownsRow_nil _ _ _ _⟩
  have HP0 := hide P0
  rw [← hg]
  have HNO := hide hno
  have HB := hide hb
  have HG := hide hg
  clear P0 hno hb hg
  go_enter Tryz.func103, Tryz.ntmps103
  go_upto_region 2 with fail
  go_cut [22] (fun c wx => c = .bool no ∧ wx = (w.alloc (.cells #[.int .i64 0, .slice none 0 0, .bool false, .bool false] 121)).alloc (.cells #[.int .i64 0, .slice none 0 0, .bool false, .bool false] 121))
  case first =>
    by_cases h1 : (g : Int) < s.size
    · have h1' : g < s.size := by omega
      by_cases h2 : (s[g].toNat : Int) = 33
      · have E1 := hide (show no = true by
          have hgo := HG.out
          subst hgo
          rw [HNO.out]; exact notAt_yes s k1 h1' h2)
        clear HP0
        go_wp2_with fail
        go_meet
        exact ⟨by rw [E1.out], rfl⟩
      · have E1 := hide (show no = false by
          have hgo := HG.out
          subst hgo
          rw [HNO.out]; exact notAt_no s k1 h1' h2)
        have h3 : ((s[g].toNat : Int) == 33) = false := beq_eq_false_iff_ne.2 h2
        clear HP0 h2
        go_wp2_with fail
        go_meet
        exact ⟨by rw [E1.out], rfl⟩
    · have E1 := hide (show no = false by
        have hgo := HG.out
        subst hgo
        rw [HNO.out]; exact notAt_out s k1 (by omega))
      clear HP0
      go_wp2_with fail
      go_meet
      exact ⟨by rw [E1.out], rfl⟩
  case rest =>
  obtain ⟨rfl, rfl⟩ := hcut
  go_upto_if 22 with fail
  go_cut [1] (fun a wx => a = .int .i64 (b : Nat) ∧ PMem w wx (.slice none 0 0) no [])
  case first =>
    cases no with
    | true =>
      have E2 := hide (show b = g + 1 by rw [HB.out, HG.out]; rfl)
      go_wp2_with fail
      go_meet
      exact ⟨congrArg (Value.int .i64) (by have := E2.out; omega), HP0.out⟩
    | false =>
      have E2 := hide (show b = g by rw [HB.out, HG.out]; rfl)
      go_wp2_with fail
      go_meet
      exact ⟨by rw [E2.out], HP0.out⟩
  case rest =>
    obtain ⟨rfl, hP⟩ := hcut
    clear HP0 HNO HB HG hgw hgs
    go_wp2_with fail
    go_loopg [1, 7] (s.size - b) (fun gk a m wr => ∃ (k n : Nat) (P : Nat → Bool) (A : Option Addr) (c : Nat) (ins : List UInt8), a = .int .i64 k ∧ m = .int .i64 n ∧ k + gk = s.size ∧ n ≤ k ∧ b ≤ k ∧ ins.length ≤ 256 * n ∧ Hid (cls P (decide (n = 0)) k (s.data.toList.drop k) = R) ∧ Hid (InsOf ins P) ∧ PMem w wr (.slice A ins.length c) no ins)
    case atStart => exact ⟨b, 0, emptyP, none, 0, [], rfl, rfl, by omega, by omega, Nat.le_refl _, by simp, hide HR.out.symm, hide insOf_nil, hP⟩
    case round =>
      obtain ⟨k, n, P, A, c, ins, rfl, rfl, hkg, hnk, hbk, hil, HCl, HI, hM⟩ := hrel
      have o0 := hM.o0; have o1 := hM.o1; have o2 := hM.o2; have o3 := hM.o3; have of_ := hM.of_
      have p0 := hM.p0; have p1 := hM.p1; have p2 := hM.p2; have p3 := hM.p3; have pf := hM.pf
      have hsz := hM.size
      clear hP
      cases gk with
      | zero =>
        obtain rfl : k = s.size := by omega
        have HE := hide (show R = none by rw [← HCl.out]; exact cls_end)
        clear HCl hkg
        go_wp2_with fail
        refine bodyPost_ret (v := .tuple #[.agg #[.int .i64 0, .slice none 0 0, .bool false, .bool false], .int .i64 (-1)]) (by simp [results, Tryz.results103, go_sem, o0, o1, o2, o3]) rfl (HN.out HE.out _ _ (hM.four ..) rfl)
      | succ g0 =>
        have hk' : k < s.size := by omega
        have hki : (k : Int) < s.size := by omega
        obtain ⟨x, hx⟩ : ∃ x, s[k]'hk' = x := ⟨_, rfl⟩
        have hx256 := x.toNat_lt
        by_cases h93 : (x.toNat : Int) = 93
        · have h93' : (s[k].toNat : Int) = 93 := by rw [hx]; exact h93
          cases n with
          | zero =>
            have HE := hide (show R = none by rw [← HCl.out]; exact cls_first hk' h93')
            clear HCl hkg h93'
            go_wp2_with fail
            refine bodyPost_ret (v := .tuple #[.agg #[.int .i64 0, .slice none 0 0, .bool false, .bool false], .int .i64 (-1)]) (by simp [results, Tryz.results103, go_sem, o0, o1, o2, o3]) rfl (HN.out HE.out _ _ (hM.four ..) rfl)
          | succ n =>
            have HE := hide (show R = some (P, k) by rw [← HCl.out]; exact cls_shut hk' h93')
            have hkw : IntKind.i64.wrap ((k : Int) + 1) = ((k + 1 : Nat) : Int) := by rw [IntWalk.i64_in _ (by omega)]; rfl
            have hkl : ¬ ((s.size : Int) ≤ (k : Int)) := by omega
            have hn0 : (((n + 1 : Nat) : Int) == 0) = false := by rw [beq_eq_false_iff_ne]; omega
            clear HCl hkg h93'
            go_wp2_with fail
            refine bodyPost_ret (v := .tuple #[.agg #[.int .i64 0, .slice A ins.length c, .bool no, .bool false], .int .i64 ((k + 1 : Nat) : Int)]) (by simp [results, Tryz.results103, go_sem, o0, o1, o2, o3]) rfl
              (HY.out P k HE.out (by omega) _ _ ins A c HI.out (hM.four ..) rfl ⟨_, hM.own4 ..⟩ (by omega))
        · have H93 := hide (show (s[k].toNat : Int) ≠ 93 by rw [hx]; exact h93)
          have b93 : ((x.toNat : Int) == 93) = false := beq_eq_false_iff_ne.2 h93
          have b93' : ((x.toNat : Int) != 93) = true := by rw [bne, b93]; rfl
          have HK := hide hkg
          clear hkg
          go_upto_region 7 with fail
          go_quiet (fail)
          replace hM := hM.drewN nq
          obtain ⟨wq, hwq⟩ : ∃ wq, wq = wr.drewN nq := ⟨_, rfl⟩
          rw [← hwq] at hM ⊢
          clear hwq o0 o1 o2 o3 of_ p0 p1 p2 p3 pf hsz
          go_upto_region 9 with fail
          go_cut [60] (fun c6 wx => c6 = .bool (isRange s k) ∧ PMem w wx (.slice A ins.length c) no ins)
          case first =>
            by_cases h2 : k + 2 < s.size
            · by_cases h45 : (s[k + 1].toNat : Int) = 45
              · by_cases g93 : (s[k + 2].toNat : Int) = 93
                · have HI2 := hide (show isRange s k = false by simp [isRange, h2, h45, g93])
                  go_wp2
                  go_meet
                  exact ⟨by rw [HI2.out], hM⟩
                · have HI2 := hide (show isRange s k = true by simp [isRange, h2, h45, g93])
                  have e93 : ((s[k + 2].toNat : Int) == 93) = false := beq_eq_false_iff_ne.2 g93
                  have e93' : ((s[k + 2].toNat : Int) != 93) = true := by rw [bne, e93]; rfl
                  clear g93
                  go_wp2
                  go_meet
                  exact ⟨by rw [HI2.out], hM⟩
              · have HI2 := hide (show isRange s k = false by simp [isRange, h2, h45])
                have e45 : ((s[k + 1].toNat : Int) == 45) = false := beq_eq_false_iff_ne.2 h45
                clear h45
                go_wp2
                go_meet
                exact ⟨by rw [HI2.out], hM⟩
            · have HI2 := hide (show isRange s k = false by simp [isRange, h2])
              go_wp2
              go_meet
              exact ⟨by rw [HI2.out], hM⟩
          case rest =>
          obtain ⟨rfl, hM2⟩ := hcut
          clear hM
          go_upto_if 60 with fail
          go_cut [9, 10] (fun y st wx => ∃ (y' : UInt8) (st' : Nat), y = .int .u8 y'.toNat ∧ st = .int .i64 st' ∧ 1 ≤ st' ∧ st' ≤ 3 ∧ Hid (spanAt s k y' st') ∧ PMem w wx (.slice A ins.length c) no ins)
          case first =>
            cases hr : isRange s k with
            | true =>
              obtain ⟨h2, e45, e93⟩ := isRange_yes hr
              have HS := hide (show spanAt s k s[k + 2] 3 from .inl ⟨h2, e45, e93, rfl, rfl⟩)
              have kk2' : (0 : Int) ≤ (k : Int) + 2 := by omega
              have kk3 : (k : Int) + 2 < s.size := by omega
              clear hr e45 e93
              go_wp2_with fail
              go_meet
              exact ⟨s[k + 2], 3, rfl, rfl, by decide, by decide, HS, hM2⟩
            | false =>
              have HS := hide (show spanAt s k x 1 from .inr ⟨isRange_no hr, ⟨hk', hx.symm⟩, rfl⟩)
              clear hr
              go_wp2_with fail
              go_meet
              exact ⟨x, 1, rfl, rfl, by decide, by decide, HS, hM2⟩
          case rest =>
          obtain ⟨y, st, rfl, rfl, hst1, hst3, HS, hM3⟩ := hcut
          clear hM2
          have o0 := hM3.o0; have o1 := hM3.o1; have o2 := hM3.o2; have o3 := hM3.o3; have of_ := hM3.of_
          have hy256 := y.toNat_lt
          by_cases hgood : memb x = true ∧ memb y = true ∧ ¬ y.toNat < x.toNat
          · obtain ⟨m1, m2, m3⟩ := hgood
            have hnx := cls_next (P := P) (f := decide (n = 0)) hk' H93.out HS.out (by rw [hx]; exact m1) m2 (by rw [hx]; exact m3)
            rw [hx, HCl.out] at hnx
            obtain ⟨hnx, hle⟩ := hnx
            have HNX := hide hnx
            have m3i : ¬ (y.toNat : Int) < x.toNat := by omega
            have m3j : x.toNat ≤ y.toNat := by omega
            have m3d : decide (y.toNat < x.toNat) = false := decide_eq_false m3
            have m3e : decide ((y.toNat : Int) < x.toNat) = false := decide_eq_false (by omega)
            have hkg := HK.out
            clear hnx m3 HCl
            go_wp2_with (go_at_call 111; refine (okay_memb _ _).mono ?_; rintro e w1 ⟨rfl, rfl⟩)
            go_loopg [11] (y.toNat + 1 - x.toNat) (fun gj cj wr2 => ∃ (j : Nat) (A2 : Option Addr) (c2 : Nat) (ins2 : List UInt8), cj = .int .i64 j ∧ j + gj = y.toNat + 1 ∧ x.toNat ≤ j ∧ ins2.length ≤ ins.length + (j - x.toNat) ∧ Hid (InsOf ins2 (fun z => P z || spanP x.toNat j z)) ∧ PMem w wr2 (.slice A2 ins2.length c2) no ins2)
            case atStart => exact ⟨x.toNat, A, c, ins, rfl, by omega, Nat.le_refl _, by omega, hide (insOf_start HI.out _), hM3⟩
            case round =>
              obtain ⟨j, A2, c2, ins2, rfl, hjg, hxj, hi2, HI2, hM4⟩ := hrel
              clear o0 o1 o2 o3 of_ hM3
              cases gk with
              | zero =>
                obtain rfl : j = y.toNat + 1 := by omega
                have hji : ¬ ((y.toNat + 1 : Nat) : Int) ≤ (y.toNat : Int) := by omega
                have w1' : IntKind.i64.wrap ((k : Int) + (st : Int)) = ((k + st : Nat) : Int) := by rw [IntWalk.i64_in _ (by omega)]; rfl
                have w2' : IntKind.i64.wrap ((n : Int) + 1) = ((n + 1 : Nat) : Int) := by rw [IntWalk.i64_in _ (by omega)]; rfl
                have HL := hide (show ins2.length ≤ 256 * (n + 1) by omega)
                go_wp2_with fail
                go_roundg (g0 + 1 - st)
                case rel => exact ⟨k + st, n + 1, _, A2, c2, ins2, rfl, rfl, by omega, by omega, by omega, HL.out, hide (by rw [decide_eq_false (by omega)]; exact HNX.out.symm), HI2, hM4⟩
                case measure => omega
              | succ gj =>
                obtain ⟨kb, rfl⟩ : ∃ kb : UInt8, kb.toNat = j := ⟨UInt8.ofNat j, by simp; omega⟩
                have hjy : kb.toNat ≤ y.toNat := by omega
                have hji : (kb.toNat : Int) ≤ (y.toNat : Int) := by omega
                have w1' : IntKind.i64.wrap ((kb.toNat : Int) + 1) = ((kb.toNat + 1 : Nat) : Int) := by rw [IntWalk.i64_in _ (by omega)]; rfl
                have w2' : IntKind.u8.wrap (kb.toNat : Int) = (kb.toNat : Int) := IntWalk.u8_in _ (by omega)
                have hmore := insOf_more HI2.out hxj
                by_cases h47 : kb = 47
                · rw [if_pos h47] at hmore
                  have HI3 := hide hmore
                  have b47 : ((kb.toNat : Int) == 47) = true := by rw [h47]; rfl
                  have b47' : ((kb.toNat : Int) != 47) = false := by rw [bne, b47]; rfl
                  clear hmore h47
                  go_wp2_with fail
                  go_roundg gj
                  case rel => exact ⟨kb.toNat + 1, A2, c2, ins2, rfl, by omega, by omega, by omega, HI3, hM4⟩
                  case measure => omega
                · rw [if_neg h47] at hmore
                  have HI3 := hide hmore
                  have b47 : ((kb.toNat : Int) == 47) = false := by
                    rw [beq_eq_false_iff_ne]
                    exact fun e => h47 (UInt8.toNat_inj.1 (by have : (47 : UInt8).toNat = 47 := rfl; omega))
                  have b47' : ((kb.toNat : Int) != 47) = true := by rw [bne, b47]; rfl
                  have q1 := hM4.p1
                  have hz4 := hM4.size
                  have hO4 := hM4.own
                  clear hmore h47
                  go_wp2_with (at_builtin; refine wpList_append_own _ rfl _ _ 119 rfl (w.heap.size + 2) 5 i0 (.int .u8 0) 1 1 Tryz.underlying119 hi hz0 hz1 hz2 rfl (by decide) _ _ _ rfl (hO4.alloc _) ⟨wr.heap.size, 0, none⟩ 1 1 [byteV kb] rfl rfl (cell_one_new _ _ _) (by simp [byteV, Value.oneCell']) (by unfold maxLen; omega) (by omega) (by simp; omega) ?_)
                  intro v' w' hO' hg hnil
                  obtain ⟨g', cap', rfl⟩ := ownsRow_succ hO'
                  have hM5 := hM4.more kb hO' hg
                  have hr := hM4.still hg
                  have r1 : w'.cell? ⟨w.heap.size + 1, 1, none⟩ = _ := cell_of_row _ _ _ _ _ _ hr
                  have r2 : w'.frozen? ⟨w.heap.size + 1, 1, none⟩ = false := frozen_of_row _ _ _ _ _ hr
                  have H5 := hide hM5
                  clear hM5 hO' hg hnil hr q1
                  go_wp2_with fail
                  go_roundg gj
                  case rel => exact ⟨kb.toNat + 1, some ⟨g', 0, none⟩, cap', ins2 ++ [kb], rfl, by omega, by omega, by simp; omega, HI3, by simpa using H5.out⟩
                  case measure => omega
          · have hE : R = none := by
              rw [← HCl.out]
              refine cls_not hk' H93.out HS.out ?_
              rw [hx]
              cases m1 : memb x with
              | false => exact .inl rfl
              | true =>
                cases m2 : memb y with
                | false => exact .inr (.inl rfl)
                | true => exact .inr (.inr (Nat.lt_of_not_le fun h => hgood ⟨m1, m2, by omega⟩))
            have HE := hide hE
            clear hE HCl
            cases m1 : memb x with
            | false =>
              clear hgood
              go_wp2_with (go_at_call 111; refine (okay_memb _ _).mono ?_; rintro e w1 ⟨rfl, rfl⟩)
              refine bodyPost_ret (v := .tuple #[.agg #[.int .i64 0, .slice none 0 0, .bool false, .bool false], .int .i64 (-1)]) (by simp [results, Tryz.results103, go_sem, o0, o1, o2, o3]) rfl (HN.out HE.out _ _ (hM3.four ..) rfl)
            | true =>
              cases m2 : memb y with
              | false =>
                clear hgood
                go_wp2_with (go_at_call 111; refine (okay_memb _ _).mono ?_; rintro e w1 ⟨rfl, rfl⟩)
                refine bodyPost_ret (v := .tuple #[.agg #[.int .i64 0, .slice none 0 0, .bool false, .bool false], .int .i64 (-1)]) (by simp [results, Tryz.results103, go_sem, o0, o1, o2, o3]) rfl (HN.out HE.out _ _ (hM3.four ..) rfl)
              | true =>
                have m3 : (y.toNat : Int) < x.toNat := by
                  rw [m1, m2] at hgood
                  have : y.toNat < x.toNat := Nat.lt_of_not_le fun h => hgood ⟨rfl, rfl, by omega⟩
                  omega
                clear hgood
                go_wp2_with (go_at_call 111; refine (okay_memb _ _).mono ?_; rintro e w1 ⟨rfl, rfl⟩)
                refine bodyPost_ret (v := .tuple #[.agg #[.int .i64 0, .slice none 0 0, .bool false, .bool false], .int .i64 (-1)]) (by simp [results, Tryz.results103, go_sem, o0, o1, o2, o3]) rfl (HN.out HE.out _ _ (hM3.four ..) rfl)
end Go.Proofs.YteoafohebgfjdaaGreatDoor
