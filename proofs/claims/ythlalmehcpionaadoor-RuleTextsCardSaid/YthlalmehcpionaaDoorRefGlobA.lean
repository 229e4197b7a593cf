/-
  Texts that belong together: RefStands, RefGlobMath, RefParseMath, RefRows.
-/
import Derived.Test.YthlalmehcpionaaDoorBytes
import Derived.Test.YthlalmehcpionaaDoorGlobAcc
import Derived.Test.YthlalmehcpionaaDoorGlobRead
import Derived.Deep.RegionHeld3
/-
  The reference's parts: okay, stands.
-/
namespace Go.Proofs.YthlalmehcpionaaDoor
open Go.RowKit
set_option maxRecDepth 100000

/-- A part of the reference's: how many bytes, the set, and what it says of it. -/
structure RPart where
  many : Int
  ins : List UInt8
  no : Bool
  any : Bool
/-- As a value: the set lies at an address. -/
def RPart.V (p : RPart) (A : Option Addr) (c : Nat) : Value := .agg #[.int .i64 p.many, .slice A p.ins.length c, .bool p.no, .bool p.any]
/-- Is a byte there? -/
def hasB (l : List UInt8) (x : UInt8) : Bool := l.contains x
/-- May a part that stands for one byte stand for this one? -/
def standsR (p : RPart) (x : UInt8) : Bool := if p.any then !(x == 47) else if p.no then !hasB p.ins x && !(x == 47) else hasB p.ins x
theorem beq47 (x : UInt8) : ((x.toNat : Int) != 47) = !(x == 47) := by
  rw [Bool.eq_iff_iff]
  simp only [bne_iff_ne, Bool.not_eq_true', beq_eq_false_iff_ne]
  constructor
  · rintro h rfl; exact h rfl
  · intro h e; exact h (UInt8.toNat_inj.1 (by have : (47 : UInt8).toNat = 47 := rfl; omega))
theorem contains_take (l : List UInt8) (x : UInt8) (k : Nat) (h : k < l.length) : hasB (l.take (k + 1)) x = (hasB (l.take k) x || (l[k] == x)) := by
  unfold hasB
  rw [← List.take_append_getElem h, Bool.eq_iff_iff]
  simp only [List.contains_iff_mem, List.mem_append, List.mem_singleton, Bool.or_eq_true, beq_iff_eq]
  exact or_congr Iff.rfl ⟨fun e => e.symm, fun e => e.symm⟩

set_option maxHeartbeats 2000000 in
theorem okay_any (x : UInt8) (w : World) :
    Calls Tryd.prog 56 #[.int .u8 x.toNat] w fun e w' => e = .returned (.bool (!(x == 93) && !(x == 91) && !(x == 47) && !(x == 92))) ∧ w' = w := by
  have e1 : ∀ n : UInt8, ((x.toNat : Int) == (n.toNat : Int)) = (x == n) := fun n => by
    rw [Bool.eq_iff_iff]
    simp only [beq_iff_eq]
    constructor
    · intro h; exact UInt8.toNat_inj.1 (by omega)
    · rintro rfl; rfl
  have a1 := e1 93
  have a2 := e1 91
  have a3 := e1 47
  have a4 := e1 92
  rw [show ((93 : UInt8).toNat : Int) = 93 from rfl] at a1
  rw [show ((91 : UInt8).toNat : Int) = 91 from rfl] at a2
  rw [show ((47 : UInt8).toNat : Int) = 47 from rfl] at a3
  rw [show ((92 : UInt8).toNat : Int) = 92 from rfl] at a4
  have b1 : ((x.toNat : Int) != 93) = !(x == 93) := by rw [← a1]; rfl
  have b2 : ((x.toNat : Int) != 91) = !(x == 91) := by rw [← a2]; rfl
  have b3 : ((x.toNat : Int) != 47) = !(x == 47) := by rw [← a3]; rfl
  have b4 : ((x.toNat : Int) != 92) = !(x == 92) := by rw [← a4]; rfl
  clear a1 a2 a3 a4 e1
  cases c1 : (x == 93)
  case true =>
    rw [c1] at b1
    go_enter Tryd.func56, Tryd.ntmps56
    clear b2 b3 b4
    go_wp2_with fail
    exact bodyPost_ret (results_tmp rfl _ _ _) rfl ⟨rfl, rfl⟩
  case false =>
  cases c2 : (x == 91)
  case true =>
    rw [c1] at b1; rw [c2] at b2
    go_enter Tryd.func56, Tryd.ntmps56
    clear b3 b4
    go_wp2_with fail
    exact bodyPost_ret (results_tmp rfl _ _ _) rfl ⟨rfl, rfl⟩
  case false =>
  cases c3 : (x == 47)
  case true =>
    rw [c1] at b1; rw [c2] at b2; rw [c3] at b3
    go_enter Tryd.func56, Tryd.ntmps56
    clear b4
    go_wp2_with fail
    exact bodyPost_ret (results_tmp rfl _ _ _) rfl ⟨rfl, rfl⟩
  case false =>
    rw [c1] at b1; rw [c2] at b2; rw [c3] at b3
    go_enter Tryd.func56, Tryd.ntmps56
    go_wp2_with fail
    exact bodyPost_ret (results_tmp rfl _ _ _) rfl ⟨rfl, rfl⟩

set_option maxHeartbeats 4000000 in
theorem stands_any (p : RPart) (A : Option Addr) (c : Nat) (x : UInt8) (w : World) (hR : RdB w w.heap.size A p.ins) (hl : p.ins.length ≤ 100000) :
    Calls Tryd.prog 47 #[p.V A c, .int .u8 x.toNat] w fun e w' => e = .returned (.bool (standsR p x)) ∧ Below w.heap.size w w' := by
  obtain ⟨many, ins, no, any⟩ := p
  unfold RPart.V standsR
  simp only at hR hl ⊢
  have hb := beq47 x
  have hli : (ins.length : Int) ≤ 100000 := by omega
  have hB : Below w.heap.size w (w.alloc (.cells #[.int .i64 many, .slice A ins.length c, .bool no, .bool any] 88)) := (Below.refl _ w).alloc (Nat.le_refl _) _
  have r := World.alloc_heap_new w (Obj.cells #[.int .i64 many, .slice A ins.length c, .bool no, .bool any] 88)
  have hR1 := hR.below hB (Nat.le_refl _)
  cases any with
  | true =>
    go_enter Tryd.func47, Tryd.ntmps47
    go_wp2_with fail
    exact bodyPost_ret (results_tmp rfl _ _ _) rfl ⟨rfl, hB⟩
  | false =>
    go_enter Tryd.func47, Tryd.ntmps47
    go_wp2_with fail
    generalize (w.alloc (.cells #[.int .i64 many, .slice A ins.length c, .bool no, .bool false] 88)) = w2 at hB r hR1 ⊢
    have c1 : w2.cell? ⟨w.heap.size, 1, none⟩ = some (.slice A ins.length c) := cell_of_row _ _ _ _ _ _ r
    have c2 : w2.cell? ⟨w.heap.size, 2, none⟩ = some (.bool no) := cell_of_row _ _ _ _ _ _ r
    have HB := hide hB
    clear r hB hR
    go_loopw [5, 6] (fun b i wr => ∃ k : Nat, k ≤ ins.length ∧ i = .int .i64 k ∧ b = .bool (hasB (ins.take k) x) ∧ wr = w2) (fun _ i _ => ins.length - (intOf i).toNat)
    case atStart => exact ⟨0, Nat.zero_le _, rfl, rfl, rfl⟩
    case round =>
      obtain ⟨k, hk, rfl, rfl, rfl⟩ := hrel
      by_cases hlt : (k : Int) < ins.length
      · have hkl : k < ins.length := by omega
        obtain ⟨ad, rfl, _, cy⟩ := hR1 k _ (List.getElem?_eq_getElem hkl)
        have HT := hide (contains_take ins x k hkl)
        generalize ins[k] = y at cy HT
        have cy : wr.cell? (ad.add k) = some (.int .u8 (y.toNat : Int)) := cy
        by_cases hxy : y = x
        · subst hxy
          have HE := hide (show hasB (ins.take (k + 1)) y = true by rw [HT.out]; simp)
          clear HT hb
          go_wp2_with fail
          rename_i K0 aK
          change K0 (Act.put _ (some 24) (.bool ((y.toNat : Int) == (y.toNat : Int)))) wr
          rw [beq_self_eq_true]
          go_wp2_with fail
          go_roundw
          case rel => exact ⟨k + 1, hkl, rfl, by rw [HE.out], trivial⟩
          case measure => simp [intOf]; omega
        · have hne : ¬ (y.toNat : Int) = (x.toNat : Int) := fun e => hxy (UInt8.toNat_inj.1 (by omega))
          have HE := hide (show hasB (ins.take (k + 1)) x = hasB (ins.take k) x by rw [HT.out]; simp [hxy])
          have E : ((y.toNat : Int) == (x.toNat : Int)) = false := by rw [beq_eq_false_iff_ne]; exact hne
          clear hxy HT hb
          go_wp2_with fail
          rename_i K0 aK
          change K0 (Act.put _ (some 24) (.bool ((y.toNat : Int) == (x.toNat : Int)))) wr
          rw [E]
          go_wp2_with fail
          go_roundw
          case rel => exact ⟨k + 1, hkl, rfl, by rw [HE.out], trivial⟩
          case measure => simp [intOf]; omega
      · obtain rfl : k = ins.length := by omega
        rw [List.take_length]
        cases hc : hasB ins x <;> cases no <;> (
          go_wp2_with fail
          refine bodyPost_ret (results_tmp rfl _ _ _) rfl ⟨?_, HB.out⟩
          first
            | rfl
            | (simp only [hc]; rfl)
            | (simp only [hc, hb]; rfl))
end Go.Proofs.YthlalmehcpionaaDoor
/-
  The reference's rows, byte by byte and part by part, tell what the parts stand for.
-/
namespace Go.Proofs.YthlalmehcpionaaDoor
set_option maxRecDepth 100000

/-- A part of the reference's, as a part. -/
def gOf (p : RPart) : GPart := if p.many = 0 then (false, fun n => standsR p (UInt8.ofNat n)) else (true, fun n => decide (p.many = 2) || !(n == 47))
theorem gOf_one {p : RPart} (h : p.many = 0) : gOf p = (false, fun n => standsR p (UInt8.ofNat n)) := if_pos h
theorem gOf_many {p : RPart} (h : p.many ≠ 0) : gOf p = (true, fun n => decide (p.many = 2) || !(n == 47)) := if_neg h
theorem ofNat_toNat' (x : UInt8) : UInt8.ofNat x.toNat = x := by simp
theorem acc_one (p : RPart) (t : List GPart) (c : UInt8) (v : List UInt8) (h : p.many = 0) : acc (gOf p :: t) (c :: v) = (standsR p c && acc t v) := by
  rw [gOf_one h]
  show (standsR p (UInt8.ofNat c.toNat) && acc t v) = _
  rw [ofNat_toNat']
theorem acc_one_end (p : RPart) (t : List GPart) (h : p.many = 0) : acc (gOf p :: t) [] = false := by
  rw [gOf_one h]; rfl
theorem acc_many (p : RPart) (t : List GPart) (c : UInt8) (v : List UInt8) (h : p.many ≠ 0) : acc (gOf p :: t) (c :: v) = (acc t (c :: v) || ((decide (p.many = 2) || !(c == 47)) && acc (gOf p :: t) v)) := by
  rw [gOf_many h]
  show (acc t (c :: v) || ((decide (p.many = 2) || !(c.toNat == 47)) && manyOf _ (acc t) v)) = _
  have e : (c.toNat == 47) = (c == 47) := by
    rw [Bool.eq_iff_iff]
    simp only [beq_iff_eq]
    constructor
    · intro h; exact UInt8.toNat_inj.1 h
    · rintro rfl; rfl
  rw [e]
  rfl
theorem acc_many_end (p : RPart) (t : List GPart) (h : p.many ≠ 0) : acc (gOf p :: t) [] = acc t [] := by
  rw [gOf_many h]; rfl
/-- Do the parts from k on stand for the text from i on? -/
def rowAt (l : List RPart) (s : List UInt8) (k i : Nat) : Bool := acc ((l.drop k).map gOf) (s.drop i)
theorem rowAt_end (l : List RPart) (s : List UInt8) (i : Nat) (hi : i ≤ s.length) : rowAt l s l.length i = decide (i = s.length) := by
  unfold rowAt
  rw [List.drop_length]
  show (s.drop i).isEmpty = _
  rw [Bool.eq_iff_iff, List.isEmpty_iff, decide_eq_true_iff, List.drop_eq_nil_iff]
  omega
theorem rowAt_cons (l : List RPart) (s : List UInt8) (k i : Nat) (hk : k < l.length) : rowAt l s k i = acc (gOf l[k] :: (l.drop (k + 1)).map gOf) (s.drop i) := by
  unfold rowAt
  rw [List.drop_eq_getElem_cons hk]; rfl
theorem rowAt_one (l : List RPart) (s : List UInt8) (k i : Nat) (hk : k < l.length) (hi : i < s.length) (h : (l[k]).many = 0) : rowAt l s k i = (standsR l[k] s[i] && rowAt l s (k + 1) (i + 1)) := by
  rw [rowAt_cons l s k i hk, List.drop_eq_getElem_cons hi, acc_one _ _ _ _ h]; rfl
theorem rowAt_one_end (l : List RPart) (s : List UInt8) (k : Nat) (hk : k < l.length) (h : (l[k]).many = 0) : rowAt l s k s.length = false := by
  rw [rowAt_cons l s k _ hk, List.drop_length, acc_one_end _ _ h]
theorem rowAt_many (l : List RPart) (s : List UInt8) (k i : Nat) (hk : k < l.length) (hi : i < s.length) (h : (l[k]).many ≠ 0) : rowAt l s k i = (rowAt l s (k + 1) i || ((decide ((l[k]).many = 2) || !(s[i] == 47)) && rowAt l s k (i + 1))) := by
  rw [rowAt_cons l s k i hk, List.drop_eq_getElem_cons hi, acc_many _ _ _ _ h, ← List.drop_eq_getElem_cons hi, ← rowAt_cons l s k (i + 1) hk]; rfl
theorem rowAt_many_end (l : List RPart) (s : List UInt8) (k : Nat) (hk : k < l.length) (h : (l[k]).many ≠ 0) : rowAt l s k s.length = rowAt l s (k + 1) s.length := by
  rw [rowAt_cons l s k _ hk, List.drop_length, acc_many_end _ _ h]
  unfold rowAt
  rw [List.drop_length]
theorem rowAt_zero (l : List RPart) (s : List UInt8) : rowAt l s 0 0 = acc (l.map gOf) s := rfl
end Go.Proofs.YthlalmehcpionaaDoor
/-
  The reference's reading of a pattern, as mathematics: parts that say of each byte the same stand for the same texts.
-/
namespace Go.Proofs.YthlalmehcpionaaDoor
set_option maxRecDepth 100000

/-- Two parts that say of each byte the same. -/
def SameG (a b : GPart) : Prop := a.1 = b.1 ∧ ∀ c : UInt8, a.2 c.toNat = b.2 c.toNat
def SameL : List GPart → List GPart → Prop
  | [], [] => True
  | a :: l, b :: m => SameG a b ∧ SameL l m
  | _, _ => False
theorem SameL.app : ∀ {l m l' m' : List GPart}, SameL l m → SameL l' m' → SameL (l ++ l') (m ++ m')
  | [], [], _, _, _, h => h
  | _ :: _, _ :: _, _, _, h1, h => ⟨h1.1, SameL.app h1.2 h⟩
  | [], _ :: _, _, _, h1, _ => h1.elim
  | _ :: _, [], _, _, h1, _ => h1.elim
theorem manyOf_congr {P Q : Nat → Bool} {f g : List UInt8 → Bool} (hP : ∀ c : UInt8, P c.toNat = Q c.toNat) (hf : ∀ u, f u = g u) : ∀ u, manyOf P f u = manyOf Q g u
  | [] => hf []
  | c :: v => by unfold manyOf; rw [hf, hP, manyOf_congr hP hf v]
theorem acc_congr : ∀ {l m : List GPart}, SameL l m → ∀ u, acc l u = acc m u
  | [], [], _, _ => rfl
  | a :: l, b :: m, h, u => by
    unfold acc
    rw [h.1.1]
    cases b.1 with
    | true => exact manyOf_congr h.1.2 (acc_congr h.2) u
    | false =>
      show oneOf a.2 (acc l) u = oneOf b.2 (acc m) u
      cases u with
      | nil => rfl
      | cons c v =>
        show (a.2 c.toNat && acc l v) = (b.2 c.toNat && acc m v)
        rw [h.1.2, acc_congr h.2 v]
  | [], _ :: _, h, _ => h.elim
  | _ :: _, [], h, _ => h.elim

/-- The bytes of a set, as the reference keeps them: all but the slash. -/
def InsOf (ins : List UInt8) (P : Nat → Bool) : Prop := ∀ c : UInt8, hasB ins c = (P c.toNat && !(c == 47))
theorem insOf_nil : InsOf [] emptyP := fun _ => rfl
theorem span_one (c d : UInt8) : spanP d.toNat (d.toNat + 1) c.toNat = (c == d) := by
  unfold spanP
  rw [Bool.eq_iff_iff]
  simp only [Bool.and_eq_true, decide_eq_true_eq, beq_iff_eq]
  constructor
  · rintro ⟨h1, h2⟩; exact UInt8.toNat_inj.1 (by omega)
  · rintro rfl; exact ⟨Nat.le_refl _, by omega⟩
theorem span_slash (c : UInt8) : spanP 47 48 c.toNat = (c == 47) := span_one c 47
theorem span_all (c : UInt8) : spanP 0 256 c.toNat = true := by
  unfold spanP
  have := c.toNat_lt
  simp only [Bool.and_eq_true, decide_eq_true_eq]
  omega
theorem inName_byte (c : UInt8) : inNameP c.toNat = !(c == 47) := by
  unfold inNameP
  rw [span_all, span_slash]; rfl
/-- One byte more of a span. -/
theorem span_more (a k x : Nat) (h : a ≤ k) : spanP a (k + 1) x = (spanP a k x || x == k) := by
  unfold spanP
  rw [Bool.eq_iff_iff]
  simp only [Bool.and_eq_true, decide_eq_true_eq, Bool.or_eq_true, beq_iff_eq]
  omega
theorem span_none (a x : Nat) : spanP a a x = false := by
  unfold spanP
  rw [Bool.eq_false_iff]
  simp only [ne_eq, Bool.and_eq_true, decide_eq_true_eq]
  omega
theorem insOf_more {ins : List UInt8} {P : Nat → Bool} {a : Nat} {k : UInt8} (h : InsOf ins (fun x => P x || spanP a k.toNat x)) (ha : a ≤ k.toNat) :
    InsOf (if k = 47 then ins else ins ++ [k]) (fun x => P x || spanP a (k.toNat + 1) x) := fun c => by
  have h1 := h c
  simp only at h1 ⊢
  rw [span_more a k.toNat c.toNat ha]
  have hk : (c.toNat == k.toNat) = (c == k) := by
    rw [Bool.eq_iff_iff, beq_iff_eq, beq_iff_eq, UInt8.toNat_inj]
  rw [hk]
  by_cases e : k = 47
  · rw [if_pos e, h1, e]
    cases (c == 47) <;> simp
  · rw [if_neg e]
    have e2 : hasB (ins ++ [k]) c = (hasB ins c || (c == k)) := by
      unfold hasB
      rw [Bool.eq_iff_iff]
      simp only [List.contains_iff_mem, List.mem_append, List.mem_singleton, Bool.or_eq_true, beq_iff_eq]
    rw [e2, h1]
    by_cases ec : c = k
    · subst ec
      have : (c == 47) = false := beq_eq_false_iff_ne.2 e
      simp [this]
    · have : (c == k) = false := beq_eq_false_iff_ne.2 ec
      simp [this]
theorem insOf_start {ins : List UInt8} {P : Nat → Bool} (h : InsOf ins P) (a : Nat) : InsOf ins (fun x => P x || spanP a a x) := fun c => by
  simp only [span_none, Bool.or_false]; exact h c
/-- A class's part. -/
theorem class_same {ins : List UInt8} {P : Nat → Bool} (h : InsOf ins P) (no : Bool) : SameG (gOf ⟨0, ins, no, false⟩) (false, fun x => (if no then spanP 0 256 x && !P x else P x) && !spanP 47 48 x) := by
  rw [gOf_one rfl]
  refine ⟨rfl, fun c => ?_⟩
  simp only
  rw [ofNat_toNat', span_slash, span_all]
  unfold standsR
  simp only
  rw [h c]
  cases no <;> cases (P c.toNat) <;> cases (c == 47) <;> rfl
theorem single_same (d : UInt8) : SameG (gOf ⟨0, [d], false, false⟩) (false, spanP d.toNat (d.toNat + 1)) := by
  rw [gOf_one rfl]
  refine ⟨rfl, fun c => ?_⟩
  simp only
  rw [ofNat_toNat', span_one]
  unfold standsR hasB
  simp only [Bool.false_eq_true, if_false]
  rw [Bool.eq_iff_iff]
  simp
theorem any_same : SameG (gOf ⟨0, [], false, true⟩) (false, inNameP) := by
  rw [gOf_one rfl]
  refine ⟨rfl, fun c => ?_⟩
  simp only
  rw [ofNat_toNat', inName_byte]; rfl
theorem star_same : SameG (gOf ⟨1, [], false, false⟩) (true, inNameP) := by
  rw [gOf_many (by decide)]
  refine ⟨rfl, fun c => ?_⟩
  simp only
  rw [inName_byte]
  have : (c.toNat == 47) = (c == 47) := by
    rw [Bool.eq_iff_iff, beq_iff_eq, beq_iff_eq]
    exact ⟨fun h => UInt8.toNat_inj.1 h, fun h => by rw [h]; rfl⟩
  rw [this]; rfl
theorem stars_same : SameG (gOf ⟨2, [], false, false⟩) (true, spanP 0 256) := by
  rw [gOf_many (by decide)]
  refine ⟨rfl, fun c => ?_⟩
  simp only
  rw [span_all]; rfl

theorem cls_shift (P : Nat → Bool) (f : Bool) (i : Nat) (l : List UInt8) (k : Nat) : cls P f (i + k) l = (cls P f i l).map fun x => (x.1, x.2 + k) := by
  induction P, f, i, l using cls.induct generalizing k with
  | case1 => rw [cls.eq_def, cls.eq_def]; rfl
  | case2 P f i c r hc =>
    rw [cls.eq_def, cls.eq_def]
    simp only [hc, if_true, Option.map_some]
  | case3 P f i c r hc hm =>
    rw [cls.eq_def, cls.eq_def]
    simp only [hc, hm, if_true, Bool.false_eq_true, if_false, Option.map_none]
  | case4 P f i c hc hm d e r' hd hb =>
    rw [cls.eq_def, cls.eq_def]
    simp only [hc, hm, hd, hb, if_true, Bool.false_eq_true, if_false, Option.map_none]
  | case5 P f i c hc hm d e r' hd hb ih =>
    rw [cls.eq_def, cls.eq_def (i := i)]
    simp only [hc, hm, hd, hb, if_true, Bool.false_eq_true, if_false]
    rw [← ih k, show i + k + 3 = i + 3 + k by omega]
  | case6 P f i c hc hm d e r' hd ih =>
    rw [cls.eq_def, cls.eq_def (i := i)]
    simp only [hc, hm, hd, Bool.false_eq_true, if_false]
    rw [← ih k, show i + k + 1 = i + 1 + k by omega]
  | case7 P f i c hc hm d ih =>
    rw [cls.eq_def, cls.eq_def (i := i)]
    simp only [hc, hm, Bool.false_eq_true, if_false]
    rw [← ih k, show i + k + 1 = i + 1 + k by omega]
  | case8 P f i c hc hm =>
    rw [cls.eq_def, cls.eq_def (i := i)]
    simp only [hc, hm, Bool.false_eq_true, if_false, Option.map_none]

/-- A class that begins at place k of a text, told by the places of the text. -/
theorem classOf_at (L : List UInt8) (k : Nat) (no : Bool) (hn : Lib.hasPrefix (L.drop (k + 1)) [33] = no) (b : Nat) (hb : b = if no then k + 2 else k + 1) :
    classOf (L.drop k) = match cls emptyP true b (L.drop b) with
      | none => none
      | some (P, i) => some ((false, fun x => (if no then spanP 0 256 x && !P x else P x) && !spanP 47 48 x), i + 1 - k) := by
  unfold classOf
  rw [List.drop_drop, hn]
  have e := cls_shift emptyP true (if no then 2 else 1) (L.drop b) k
  have hb2 : (if no then 2 else 1) + k = b := by rw [hb]; cases no <;> simp <;> omega
  rw [hb2] at e
  simp only [List.drop_drop]
  rw [show k + (if no then 2 else 1) = b by omega, e]
  cases hc : cls emptyP true (if no then 2 else 1) (L.drop b) with
  | none => rfl
  | some x =>
    obtain ⟨P, i⟩ := x
    simp only [Option.map_some]
    rw [show i + k + 1 - k = i + 1 by omega]
end Go.Proofs.YthlalmehcpionaaDoor
/-
  The reference's rows, in memory: what Match goes over.
-/
namespace Go.Proofs.YthlalmehcpionaaDoor
open Go.RowKit
set_option maxRecDepth 100000

/-- Parts that lie at an address, one behind the other, and their sets, all below block B. -/
def RdP (w : World) (B : Nat) (A : Option Addr) (l : List RPart) : Prop :=
  ∀ k p, l[k]? = some p → ∃ (ad : Addr) (A' : Option Addr) (c' : Nat), A = some ad ∧ ad.block < B ∧ RdB w B A' p.ins ∧ p.ins.length ≤ 100000 ∧
    ∀ j v, #[Value.int .i64 p.many, .slice A' p.ins.length c', .bool p.no, .bool p.any][j]? = some v → w.cell? ((ad.add (k * 4)).add j) = some v
theorem RdP.below {w w' : World} {B B' : Nat} {A : Option Addr} {l : List RPart} (h : RdP w B A l) (hb : Below B' w w') (hB : B ≤ B') : RdP w' B A l := fun k p hx => by
  obtain ⟨ad, A', c', e, hlt, hr, hl, hc⟩ := h k p hx
  exact ⟨ad, A', c', e, hlt, hr.below hb hB, hl, fun j v hv => (hb.cell (by rw [add_block, add_block]; omega)).trans (hc j v hv)⟩
/-- A row of truth values, in a block. -/
def Row (w : World) (b : Nat) (r : List Bool) : Prop := w.heap[b]? = some (.cells (r.map Value.bool).toArray 4 (0, 0))

theorem info_bool : (Tryd.prog.info? 4).map (fun i => (i.zero, i.size, i.bytes)) = some (some (.bool false), 1, 1) := by kernel_rfl
theorem info_b {i : Option TypeInfo} {a b : Nat} {v : Value} (h : i.map (fun i => (i.zero, i.size, i.bytes)) = some (some v, a, b)) : ∃ i0, i = some i0 ∧ i0.zero = some v ∧ i0.size = a ∧ i0.bytes = b := by
  cases i with
  | none => simp at h
  | some i0 => simp at h; exact ⟨i0, rfl, h.1, h.2.1, h.2.2⟩
theorem madeF (q : Nat) : madeCells (Value.cells (.bool false)) (q * 1) = ((List.replicate q false).map Value.bool).toArray := by
  apply Array.ext'
  unfold madeCells
  simp [Value.cells, Nat.mod_one, List.map_const']
theorem make_any (q : Nat) (hq : q ≤ 16777216) (W : World) : (Instr.makeSlice 91 (.int .i64 (q : Nat)) (.int .i64 (q : Nat))).run Tryd.prog W = .ok (.slice (some ⟨W.heap.size, 0, none⟩) q q) (W.alloc (.cells ((List.replicate q false).map Value.bool).toArray 4)) := by
  obtain ⟨i0, hi, hz, h1, h2⟩ := info_b info_bool
  have h := run_makeSlice (P := Tryd.prog) (w := W) 91 4 i0 (.bool false) Tryd.underlying91 hi hz .i64 .i64 (q : Int) (q : Int) (by omega) (Int.le_refl _) (by rw [h1]; simp; omega) (by rw [h2]; omega) (by omega)
  rw [h, h1]
  simp only [Int.toNat_natCast]
  rw [madeF]
/-- The row of the parts from j on. -/
def rowL (l : List RPart) (s : List UInt8) (j : Nat) : List Bool := (List.range (s.length + 1)).map (rowAt l s j)
/-- The row of the parts from j on, where it is known from i on. -/
def rowTo (l : List RPart) (s : List UInt8) (j i : Nat) : List Bool := (List.range (s.length + 1)).map fun x => if i ≤ x then rowAt l s j x else false
theorem rowTo_all (l : List RPart) (s : List UInt8) (j : Nat) : rowTo l s j 0 = rowL l s j := by unfold rowTo rowL; simp
theorem rowTo_none (l : List RPart) (s : List UInt8) (j : Nat) : rowTo l s j (s.length + 1) = List.replicate (s.length + 1) false := by
  unfold rowTo
  apply List.ext_getElem?
  intro x
  rw [List.getElem?_map, List.getElem?_replicate]
  by_cases h : x < s.length + 1
  · rw [List.getElem?_range h, if_pos h, Option.map_some, if_neg (by omega)]
  · rw [List.getElem?_eq_none (by simp; omega), if_neg h]; rfl
theorem rowTo_set (l : List RPart) (s : List UInt8) (j i : Nat) : (rowTo l s j (i + 1)).set i (rowAt l s j i) = rowTo l s j i := by
  apply List.ext_getElem?
  intro x
  unfold rowTo
  rw [List.getElem?_set, List.getElem?_map, List.getElem?_map, List.length_map, List.length_range]
  by_cases h : i = x
  · subst h
    rw [if_pos rfl]
    by_cases hi : i < s.length + 1
    · rw [if_pos hi, List.getElem?_range hi, Option.map_some, if_pos (Nat.le_refl _)]
    · rw [if_neg hi, List.getElem?_eq_none (by simp; omega)]; rfl
  · rw [if_neg h]
    by_cases hx : x < s.length + 1
    · rw [List.getElem?_range hx, Option.map_some, Option.map_some]
      by_cases h1 : i ≤ x
      · rw [if_pos (by omega), if_pos h1]
      · rw [if_neg (by omega), if_neg h1]
    · rw [List.getElem?_eq_none (by simp; omega)]; rfl
theorem rowTo_at (l : List RPart) (s : List UInt8) (j i x : Nat) (h : i ≤ x) (hx : x ≤ s.length) : (rowTo l s j i)[x]? = some (rowAt l s j x) := by
  unfold rowTo
  rw [List.getElem?_map, List.getElem?_range (by omega), Option.map_some, if_pos h]
theorem rowL_at (l : List RPart) (s : List UInt8) (j x : Nat) (hx : x ≤ s.length) : (rowL l s j)[x]? = some (rowAt l s j x) := by
  rw [← rowTo_all]; exact rowTo_at l s j 0 x (Nat.zero_le _) hx
theorem rowL_end (l : List RPart) (s : List UInt8) : (List.replicate (s.length + 1) false).set s.length true = rowL l s l.length := by
  apply List.ext_getElem?
  intro x
  unfold rowL
  rw [List.getElem?_set, List.length_replicate, List.getElem?_replicate, List.getElem?_map]
  by_cases h : s.length = x
  · rw [if_pos h, if_pos (by omega), List.getElem?_range (by omega), Option.map_some, rowAt_end l s x (by omega), decide_eq_true h.symm]
  · rw [if_neg h]
    by_cases hx : x < s.length + 1
    · rw [if_pos hx, List.getElem?_range hx, Option.map_some, rowAt_end l s x (by omega), decide_eq_false (fun e => h e.symm)]
    · rw [if_neg hx, List.getElem?_eq_none (by simp; omega)]; rfl
theorem Row.cell {w : World} {b x : Nat} {r : List Bool} {v : Bool} (h : Row w b r) (hx : r[x]? = some v) : w.cell? ⟨b, x, none⟩ = some (.bool v) := by
  unfold Row at h
  refine (cell_of_row _ _ _ _ _ _ h).trans ?_
  rw [List.getElem?_toArray, List.getElem?_map, hx]; rfl
theorem Row.frozen {w : World} {b x : Nat} {r : List Bool} (h : Row w b r) : w.frozen? ⟨b, x, none⟩ = false := frozen_of_row _ _ _ _ _ h
theorem Row.set {w : World} {b x : Nat} {r : List Bool} (h : Row w b r) (v : Bool) : Row (w.setCell ⟨b, x, none⟩ (.bool v)) b (r.set x v) := by
  unfold Row at h ⊢
  rw [heap_setCell_same _ _ _ _ _ _ h, List.setIfInBounds_toArray, List.map_set]
theorem Row.other {w : World} {b g x : Nat} {r : List Bool} (h : Row w b r) (hn : b ≠ g) (v : Value) : Row (w.setCell ⟨g, x, none⟩ v) b r := (heap_setCell_other _ _ _ _ (by simpa using hn)).trans h

theorem row_fin {w W : World} {b g ii kk : Nat} {l : List RPart} {S : List UInt8} {R : List Bool} {v : Bool} (Rg : Row W g (rowTo l S kk (ii + 1))) (Rb : Row W b R) (hB : Below w.heap.size w W) (hbg : b ≠ g) (hwg : w.heap.size ≤ g) (hv : rowAt l S kk ii = v) :
    Row (W.setCell ⟨g, ii, none⟩ (.bool v)) g (rowTo l S kk ii) ∧ Row (W.setCell ⟨g, ii, none⟩ (.bool v)) b R ∧ Below w.heap.size w (W.setCell ⟨g, ii, none⟩ (.bool v)) := by
  have h := Rg.set (x := ii) v
  rw [← hv, rowTo_set, hv] at h
  exact ⟨h, Rb.other hbg _, hB.setCell (p := ⟨g, ii, none⟩) hwg _⟩

/-- The truth value in a cell. -/
def boolIn (a : Addr) (w : World) : Bool := match w.cell? a with | some (.bool b) => b | _ => false
theorem boolIn_of {a : Addr} {w : World} {b : Bool} (h : w.cell? a = some (.bool b)) : boolIn a w = b := by unfold boolIn; rw [h]
/-- What a round of Match goes over: the part, the row behind it, and its own row. -/
def MS (w : World) (ad : Addr) (A' : Option Addr) (c' : Nat) (p : RPart) (b g ii i1 : Nat) (rv : Bool) (R G : List Bool) (W : World) : Prop :=
  Below w.heap.size w W ∧ W.cell? ad = some (.int .i64 p.many) ∧ W.cell? ⟨ad.block, ad.off + 1, none⟩ = some (.slice A' p.ins.length c') ∧ W.cell? ⟨ad.block, ad.off + 2, none⟩ = some (.bool p.no) ∧ W.cell? ⟨ad.block, ad.off + 3, none⟩ = some (.bool p.any) ∧ W.cell? ⟨b, i1, none⟩ = some (.bool rv) ∧ W.cell? ⟨g, ii, none⟩ = some (.bool (boolIn ⟨g, ii, none⟩ W)) ∧ W.frozen? ⟨g, ii, none⟩ = false ∧ Row W b R ∧ Row W g (G.set ii (boolIn ⟨g, ii, none⟩ W))
theorem MS.call {w : World} {ad : Addr} {A' : Option Addr} {c' : Nat} {p : RPart} {b g ii i1 : Nat} {rv : Bool} {R G : List Bool} {W W2 : World} (h : MS w ad A' c' p b g ii i1 rv R G W) (hb : Below W.heap.size W W2) : MS w ad A' c' p b g ii i1 rv R G W2 := by
  obtain ⟨h10, h1, h2, h3, h4, h5, h6, h7, h8, h9⟩ := h
  have e6 : W2.cell? ⟨g, ii, none⟩ = some (.bool (boolIn ⟨g, ii, none⟩ W)) := (hb.cell (cell_lt h6)).trans h6
  have r9 : Row W2 g (G.set ii (boolIn ⟨g, ii, none⟩ W)) := (hb.block _ (Array.getElem?_eq_some_iff.1 h9).1).trans h9
  refine ⟨h10.trans (hb.mono h10.size), (hb.cell (cell_lt h1)).trans h1, (hb.cell (cell_lt h2)).trans h2, (hb.cell (cell_lt h3)).trans h3, (hb.cell (cell_lt h4)).trans h4, (hb.cell (cell_lt h5)).trans h5, by rw [boolIn_of e6]; exact e6, r9.frozen, (hb.block _ (Array.getElem?_eq_some_iff.1 h8).1).trans h8, by rw [boolIn_of e6]; exact r9⟩
theorem MS.store {w : World} {ad : Addr} {A' : Option Addr} {c' : Nat} {p : RPart} {b g ii i1 : Nat} {rv : Bool} {R G : List Bool} {W : World} (h : MS w ad A' c' p b g ii i1 rv R G W) (hg : ad.block ≠ g) (hbg : b ≠ g) (hw : w.heap.size ≤ g) (v : Bool) : MS w ad A' c' p b g ii i1 rv R G (W.setCell ⟨g, ii, none⟩ (.bool v)) := by
  obtain ⟨h10, h1, h2, h3, h4, h5, h6, h7, h8, h9⟩ := h
  have r9 := h9.set (x := ii) v
  rw [List.set_set] at r9
  have e6 : (W.setCell ⟨g, ii, none⟩ (.bool v)).cell? ⟨g, ii, none⟩ = some (.bool v) := World.cell?_setCell_same (h := h6) ..
  refine ⟨h10.setCell (p := ⟨g, ii, none⟩) hw _, ?_, ?_, ?_, ?_, ?_, by rw [boolIn_of e6]; exact e6, r9.frozen, h8.other hbg _, by rw [boolIn_of e6]; exact r9⟩
  · exact (World.cell?_setCell_other (h := fun e => hg (congrArg Addr.block e).symm) ..).trans h1
  · exact (World.cell?_setCell_other (h := fun e => hg (congrArg Addr.block e).symm) ..).trans h2
  · exact (World.cell?_setCell_other (h := fun e => hg (congrArg Addr.block e).symm) ..).trans h3
  · exact (World.cell?_setCell_other (h := fun e => hg (congrArg Addr.block e).symm) ..).trans h4
  · exact (World.cell?_setCell_other (h := fun e => hbg (congrArg Addr.block e).symm) ..).trans h5
theorem cell_setx {W : World} {b x : Nat} {v u : Value} (h : (W.setCell ⟨b, x, none⟩ v).cell? ⟨b, x, none⟩ = some u) : (W.setCell ⟨b, x, none⟩ v).cell? ⟨b, x, none⟩ = some v := by
  cases hc : W.cell? ⟨b, x, none⟩ with
  | some y => exact World.cell?_setCell_same (h := hc) ..
  | none =>
    exfalso
    simp only [World.setCell, World.cell?, Array.getElem?_modify, if_true] at h hc
    cases hh : W.heap[b]? with
    | none => rw [hh] at h; simp at h
    | some o =>
      rw [hh] at h hc
      cases o with
      | cells c e f =>
        simp at h hc
        have h9 : c.size ≤ x := hc
        rw [Array.getElem?_eq_none (by simpa using h9)] at h
        simp at h
      | _ => simp at h
theorem MS.fin' {w : World} {ad : Addr} {A' : Option Addr} {c' : Nat} {p : RPart} {b g ii i1 kk : Nat} {rv v : Bool} {R S : List _} {l : List RPart} {W : World} (h : MS w ad A' c' p b g ii i1 rv R (rowTo l S kk (ii + 1)) (W.setCell ⟨g, ii, none⟩ (.bool v))) (hv : rowAt l S kk ii = v) :
    Row (W.setCell ⟨g, ii, none⟩ (.bool v)) g (rowTo l S kk ii) ∧ Row (W.setCell ⟨g, ii, none⟩ (.bool v)) b R ∧ Below w.heap.size w (W.setCell ⟨g, ii, none⟩ (.bool v)) := by
  obtain ⟨h10, _, _, _, _, _, h6, _, h8, h9⟩ := h
  rw [boolIn_of (cell_setx h6), ← hv, rowTo_set, hv] at h9
  exact ⟨h9, h8, h10⟩
end Go.Proofs.YthlalmehcpionaaDoor
