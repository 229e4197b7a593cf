/-
  Texts that belong together: GlobRead, GlobFirst, GlobClassPlain.
-/
import Derived.Test.YteoafohebgfjdaaGreatDoorAutoGlobLeaf
import Derived.Test.YteoafohebgfjdaaGreatDoorAutoGlobPat
/-
  What a whole pattern's text is read as. Nothing of a program stands here.
-/
namespace Go.Proofs.YteoafohebgfjdaaGreatDoor

theorem cls_le (P : Nat → Bool) (f : Bool) (i : Nat) (l : List UInt8) (Q : Nat → Bool) (j : Nat) (h : cls P f i l = some (Q, j)) : i ≤ j ∧ j < i + l.length := by
  induction P, f, i, l using cls.induct generalizing Q j with
  | case1 => rw [cls.eq_def] at h; cases h
  | case2 P f i c r hc =>
    rw [cls.eq_def] at h
    simp only [hc, if_true, Option.some.injEq, Prod.mk.injEq] at h
    simp only [List.length_cons]
    omega
  | case3 P f i c r hc hm =>
    rw [cls.eq_def] at h
    simp only [hc, hm, if_true, Bool.false_eq_true, if_false] at h
    cases h
  | case4 P f i c hc hm d e r' hd hb =>
    rw [cls.eq_def] at h
    simp only [hc, hm, hd, hb, if_true, Bool.false_eq_true, if_false] at h
    cases h
  | case5 P f i c hc hm d e r' hd hb ih =>
    rw [cls.eq_def] at h
    simp only [hc, hm, hd, hb, if_true, Bool.false_eq_true, if_false] at h
    have := ih _ _ h
    simp only [List.length_cons]
    omega
  | case6 P f i c hc hm d e r' hd ih =>
    rw [cls.eq_def] at h
    simp only [hc, hm, hd, Bool.false_eq_true, if_false] at h
    have := ih _ _ h
    simp only [List.length_cons] at this ⊢
    omega
  | case7 P f i c hc hm d ih =>
    rw [cls.eq_def] at h
    simp only [hc, hm, Bool.false_eq_true, if_false] at h
    have := ih _ _ h
    simp only [List.length_cons] at this ⊢
    omega
  | case8 P f i c hc hm =>
    rw [cls.eq_def] at h
    simp only [hc, hm, Bool.false_eq_true, if_false] at h
    cases h

theorem classOf_le (L : List UInt8) (p : Bool × (Nat → Bool)) (n : Nat) (h : classOf L = some (p, n)) : 1 ≤ n ∧ n ≤ L.length := by
  unfold classOf at h
  simp only at h
  split at h
  · cases h
  · rename_i Q i hc
    have := cls_le _ _ _ _ _ _ hc
    simp only [Option.some.injEq, Prod.mk.injEq] at h
    simp only [List.length_drop] at this
    omega

theorem firstOf_le (L : List UInt8) (p : Bool × (Nat → Bool)) (n : Nat) (h : firstOf L = some (p, n)) : 1 ≤ n ∧ n ≤ L.length := by
  unfold firstOf at h
  split at h
  · cases h
  · rename_i c r
    split at h
    · rename_i hp
      simp only [Option.some.injEq, Prod.mk.injEq] at h
      rcases r with _ | ⟨d, r⟩
      · simp [Lib.hasPrefix] at hp
      · simp only [List.length_cons]; omega
    · split at h
      · simp only [Option.some.injEq, Prod.mk.injEq] at h
        simp only [List.length_cons]; omega
      · split at h
        · simp only [Option.some.injEq, Prod.mk.injEq] at h
          simp only [List.length_cons]; omega
        · split at h
          · exact classOf_le _ _ _ h
          · split at h
            · split at h
              · cases h
              · simp only [Option.some.injEq, Prod.mk.injEq] at h
                simp only [List.length_cons]; omega
            · simp only [Option.some.injEq, Prod.mk.injEq] at h
              simp only [List.length_cons]; omega

/-- The parts of a text, in at most k steps. -/
def parseN : Nat → List UInt8 → Option (List (Bool × (Nat → Bool)))
  | _, [] => some []
  | 0, _ :: _ => none
  | k + 1, c :: r =>
    match firstOf (c :: r) with
    | none => none
    | some (p, n) => (parseN k ((c :: r).drop n)).map (p :: ·)

/-- The parts of a text. -/
def parseOf (L : List UInt8) : Option (List (Bool × (Nat → Bool))) := parseN L.length L

theorem parseN_any (k : Nat) : ∀ (L : List UInt8) (m : Nat), L.length ≤ k → L.length ≤ m → parseN k L = parseN m L := by
  induction k with
  | zero =>
    intro L m hk hm
    have : L = [] := List.length_eq_zero_iff.1 (by omega)
    subst this
    cases m <;> rfl
  | succ k ih =>
    intro L m hk hm
    cases L with
    | nil => cases m <;> rfl
    | cons c r =>
      cases m with
      | zero => simp at hm
      | succ m =>
        unfold parseN
        cases hf : firstOf (c :: r) with
        | none => rfl
        | some pn =>
          obtain ⟨p, n⟩ := pn
          have hn := firstOf_le _ _ _ hf
          simp only
          rw [ih ((c :: r).drop n) m (by rw [List.length_drop]; simp only [List.length_cons] at *; omega) (by rw [List.length_drop]; simp only [List.length_cons] at *; omega)]

theorem parseN_cons (k : Nat) (c : UInt8) (r : List UInt8) : parseN (k + 1) (c :: r) = match firstOf (c :: r) with | none => none | some (p, n) => (parseN k ((c :: r).drop n)).map (p :: ·) := by rw [parseN]
theorem parseOf_nil : parseOf [] = some [] := rfl
theorem parseOf_bad {L : List UInt8} (h0 : L ≠ []) (h : firstOf L = none) : parseOf L = none := by
  cases L with
  | nil => exact absurd rfl h0
  | cons c r => unfold parseOf; rw [List.length_cons]; unfold parseN; rw [h]
theorem parseOf_step {L : List UInt8} {p : Bool × (Nat → Bool)} {n : Nat} (h : firstOf L = some (p, n)) : parseOf L = (parseOf (L.drop n)).map (p :: ·) := by
  cases L with
  | nil => cases h
  | cons c r =>
    have hn := firstOf_le _ _ _ h
    show parseN (r.length + 1) (c :: r) = (parseN ((c :: r).drop n).length ((c :: r).drop n)).map (p :: ·)
    rw [parseN_cons, h]
    simp only
    rw [parseN_any r.length ((c :: r).drop n) ((c :: r).drop n).length (by rw [List.length_drop]; simp only [List.length_cons] at *; omega) (Nat.le_refl _)]
end Go.Proofs.YteoafohebgfjdaaGreatDoor
/-
  The first part of a pattern: what glob.first answers.
-/
namespace Go.Proofs.YteoafohebgfjdaaGreatDoor
open Go.RowKit
attribute [local go_sem] World.setCell_drewN' World.alloc_drewN'

theorem five {w w1 : World} {o : Obj} (hb : Below (w.alloc o).drew.heap.size (w.alloc o).drew w1) {i0 i1 i2 i3 i4 : Nat} {u0 u1 u2 u3 u4 : Value} : Below w.heap.size w (((((w1.setCell ⟨w.heap.size, i0, none⟩ u0).setCell ⟨w.heap.size, i1, none⟩ u1).setCell ⟨w.heap.size, i2, none⟩ u2).setCell ⟨w.heap.size, i3, none⟩ u3).setCell ⟨w.heap.size, i4, none⟩ u4) :=
  five' (((Below.refl _ w).alloc (Nat.le_refl _) _).drew.trans (hb.mono (by show _ ≤ (w.alloc o).heap.size; simp)))
theorem fiveP {w w1 : World} {o : Obj} (hb : Below (w.alloc o).heap.size (w.alloc o) w1) {i0 i1 i2 i3 i4 : Nat} {u0 u1 u2 u3 u4 : Value} : Below w.heap.size w (((((w1.setCell ⟨w.heap.size, i0, none⟩ u0).setCell ⟨w.heap.size, i1, none⟩ u1).setCell ⟨w.heap.size, i2, none⟩ u2).setCell ⟨w.heap.size, i3, none⟩ u3).setCell ⟨w.heap.size, i4, none⟩ u4) :=
  five' (((Below.refl _ w).alloc (Nat.le_refl _) _).trans (hb.mono (by simp)))

/-- What is known of a text's first byte, in the walk's own forms. -/
theorem first_of (s : ByteArray) (h0 : 0 < s.size) : s.data.toList = s[0] :: s.data.toList.drop 1 := by
  have := drop_cons s 0 h0
  simpa using this

set_option maxHeartbeats 800000 in
theorem first_two (s : ByteArray) (w : World) (hp : Lib.hasPrefix s.data.toList [42, 42] = true) :
    Calls Tryz.prog 123 #[.string s] w fun e w' => e = .returned (.tuple #[.agg (partV true (spanP 0 256)), .int .i64 2]) ∧ Below w.heap.size w w' := by
  go_enter Tryz.func123, Tryz.ntmps123
  go_wp2_with fail
  refine (hasPrefix_any _ _ _).mono ?_
  rintro e w1 ⟨rfl, rfl⟩
  rw [show (ByteArray.mk #[42, 42]).data.toList = [42, 42] from rfl, hp]
  go_wp2_with (go_at_call 132; refine (all_any _).mono ?_; rintro e w1 ⟨rfl, hb1⟩; obtain ⟨hc, hf⟩ := bcell hb1; unfold setV)
  have hz : w.heap.size < w1.heap.size := by have := hb1.size; simp at this; omega
  refine bodyPost_ret (v := .tuple #[.agg (partV true (spanP 0 256)), .int .i64 2]) (by simp [results, Tryz.results123, go_sem, hc]; rfl) rfl ⟨rfl, ?_⟩
  exact fiveP hb1

set_option maxHeartbeats 800000 in
theorem first_star (s : ByteArray) (w : World) (h0 : 0 < s.size) (d1 : (s[0].toNat : Int) = 42) (hp : Lib.hasPrefix s.data.toList [42, 42] = false) :
    Calls Tryz.prog 123 #[.string s] w fun e w' => e = .returned (.tuple #[.agg (partV true inNameP), .int .i64 1]) ∧ Below w.heap.size w w' := by
  go_enter Tryz.func123, Tryz.ntmps123
  go_wp2_with fail
  refine (hasPrefix_any _ _ _).mono ?_
  rintro e w1 ⟨rfl, rfl⟩
  rw [show (ByteArray.mk #[42, 42]).data.toList = [42, 42] from rfl, hp]
  go_wp2_with (go_at_call 133; refine (inName_any _).mono ?_; rintro e w1 ⟨rfl, hb1⟩; obtain ⟨hc, hf⟩ := bcell hb1; unfold setV)
  have hz : w.heap.size < w1.heap.size := by have := hb1.size; simp at this; omega
  refine bodyPost_ret (v := .tuple #[.agg (partV true inNameP), .int .i64 1]) (by simp [results, Tryz.results123, go_sem, hc]; rfl) rfl ⟨rfl, ?_⟩
  exact fiveP hb1

set_option maxHeartbeats 800000 in
theorem first_any1 (s : ByteArray) (w : World) (h0 : 0 < s.size) (d2 : (s[0].toNat : Int) = 63) (hp : Lib.hasPrefix s.data.toList [42, 42] = false) :
    Calls Tryz.prog 123 #[.string s] w fun e w' => e = .returned (.tuple #[.agg (partV false inNameP), .int .i64 1]) ∧ Below w.heap.size w w' := by
  go_enter Tryz.func123, Tryz.ntmps123
  go_wp2_with fail
  refine (hasPrefix_any _ _ _).mono ?_
  rintro e w1 ⟨rfl, rfl⟩
  rw [show (ByteArray.mk #[42, 42]).data.toList = [42, 42] from rfl, hp]
  go_wp2_with (go_at_call 133; refine (inName_any _).mono ?_; rintro e w1 ⟨rfl, hb1⟩; obtain ⟨hc, hf⟩ := bcell hb1; unfold setV)
  have hz : w.heap.size < w1.heap.size := by have := hb1.size; simp at this; omega
  refine bodyPost_ret (v := .tuple #[.agg (partV false inNameP), .int .i64 1]) (by simp [results, Tryz.results123, go_sem, hc]; rfl) rfl ⟨rfl, ?_⟩
  exact fiveP hb1

set_option maxHeartbeats 800000 in
theorem first_bare (s : ByteArray) (w : World) (h0 : 0 < s.size) (d4 : (s[0].toNat : Int) = 92) (h1 : s.size = 1) (hp : Lib.hasPrefix s.data.toList [42, 42] = false) :
    Calls Tryz.prog 123 #[.string s] w fun e w' => e = .returned (.tuple #[.agg part0, .int .i64 0]) ∧ Below w.heap.size w w' := by
  have h1' : (s.size : Int) = 1 := by omega
  clear h1
  go_enter Tryz.func123, Tryz.ntmps123
  go_wp2_with fail
  refine (hasPrefix_any _ _ _).mono ?_
  rintro e w1 ⟨rfl, rfl⟩
  rw [show (ByteArray.mk #[42, 42]).data.toList = [42, 42] from rfl, hp]
  go_wp2
  refine bodyPost_ret (v := .tuple #[.agg part0, .int .i64 0]) (by simp [results, Tryz.results123, go_sem]; rfl) rfl ⟨rfl, ?_⟩
  exact (Below.refl _ w).alloc (Nat.le_refl _) _

set_option maxHeartbeats 800000 in
theorem first_escape (s : ByteArray) (w : World) (h1 : 1 < s.size) (d4 : (s[0].toNat : Int) = 92) (hp : Lib.hasPrefix s.data.toList [42, 42] = false) :
    Calls Tryz.prog 123 #[.string s] w fun e w' => e = .returned (.tuple #[.agg (partV false (spanP s[1].toNat (s[1].toNat + 1))), .int .i64 2]) ∧ Below w.heap.size w w' := by
  have hlt : ((s[1].toNat : Nat) : Int) < 256 := by have := s[1].toNat_lt; omega
  have h1' : (1 : Int) < s.size := by omega
  have h1'' : ((s.size : Int) == 1) = false := by rw [beq_eq_false_iff_ne]; omega
  go_enter Tryz.func123, Tryz.ntmps123
  go_wp2_with fail
  refine (hasPrefix_any _ _ _).mono ?_
  rintro e w1 ⟨rfl, rfl⟩
  rw [show (ByteArray.mk #[42, 42]).data.toList = [42, 42] from rfl, hp]
  go_wp2
  go_region_with (go_at_call 135; refine (span_any _ _ _ hlt hlt).mono ?_; rintro e w1 ⟨rfl, hb1⟩; obtain ⟨hc, hf⟩ := bcell hb1; unfold setV)
  all_goals (
    have hz : w.heap.size < w1.heap.size := by have := hb1.size; simp at this; omega
    go_wp2
    refine bodyPost_ret (v := .tuple #[.agg (partV false (spanP s[1].toNat (s[1].toNat + 1))), .int .i64 2]) (by simp [results, Tryz.results123, go_sem, hc]; rfl) rfl ⟨rfl, ?_⟩
    exact five hb1)

set_option maxHeartbeats 800000 in
theorem first_single (s : ByteArray) (w : World) (h0 : 0 < s.size) (d1 : ((s[0].toNat : Int) == 42) = false) (d2 : ((s[0].toNat : Int) == 63) = false) (d3 : ((s[0].toNat : Int) == 91) = false) (d4 : ((s[0].toNat : Int) == 92) = false)
    (hp : Lib.hasPrefix s.data.toList [42, 42] = false) :
    Calls Tryz.prog 123 #[.string s] w fun e w' => e = .returned (.tuple #[.agg (partV false (spanP s[0].toNat (s[0].toNat + 1))), .int .i64 1]) ∧ Below w.heap.size w w' := by
  have hlt : ((s[0].toNat : Nat) : Int) < 256 := by have := s[0].toNat_lt; omega
  go_enter Tryz.func123, Tryz.ntmps123
  go_wp2_with fail
  refine (hasPrefix_any _ _ _).mono ?_
  rintro e w1 ⟨rfl, rfl⟩
  rw [show (ByteArray.mk #[42, 42]).data.toList = [42, 42] from rfl, hp]
  go_wp2
  go_region_with (go_at_call 135; refine (span_any _ _ _ hlt hlt).mono ?_; rintro e w1 ⟨rfl, hb1⟩; obtain ⟨hc, hf⟩ := bcell hb1; unfold setV)
  all_goals (
    have hz : w.heap.size < w1.heap.size := by have := hb1.size; simp at this; omega
    go_wp2
    refine bodyPost_ret (v := .tuple #[.agg (partV false (spanP s[0].toNat (s[0].toNat + 1))), .int .i64 1]) (by simp [results, Tryz.results123, go_sem, hc]; rfl) rfl ⟨rfl, ?_⟩
    exact five hb1)
end Go.Proofs.YteoafohebgfjdaaGreatDoor
/-
  What glob.class answers.
-/
namespace Go.Proofs.YteoafohebgfjdaaGreatDoor
open Go.RowKit
attribute [local go_sem] World.setCell_drewN' World.alloc_drewN'

set_option maxRecDepth 100000 in
set_option maxHeartbeats 4000000 in
theorem class_plain (s : ByteArray) (w : World) (h0 : 1 ≤ s.size) (hs : (s.size : Int) ≤ 100) (hn : Lib.hasPrefix (s.data.toList.drop 1) [33] = false) :
    Calls Tryz.prog 134 #[.string s] w fun e w' => e = .returned (readV (classOf s.data.toList)) ∧ Below w.heap.size w w' := by
  have hi : (1 : Int) ≤ s.size := by omega
  have hj : 1 ≤ s.size := by omega
  go_enter Tryz.func134, Tryz.ntmps134
  go_wp2_with fail
  go_step3
  go_wp2_with fail
  refine (hasPrefix_any _ _ _).mono ?_
  rintro e w1 ⟨rfl, rfl⟩
  rw [extract_end, show (ByteArray.mk #[33]).data.toList = [33] from rfl, hn]
  have HN := hide hn
  clear hn
  go_wp2
  go_step3
  go_wp2
  go_loopg [4] (s.size - 1) (fun g i wr => ∃ (k : Nat) (P : Nat → Bool), i = .int .i64 k ∧ k + g = s.size ∧ 1 ≤ k ∧ Hid (cls P (decide (k = 1)) k (s.data.toList.drop k) = cls emptyP true 1 (s.data.toList.drop 1)) ∧ Mine w wr P)
  case atStart => exact ⟨1, emptyP, rfl, by omega, by omega, hide rfl, Mine.start w⟩
  case round =>
    obtain ⟨k, P, rfl, hkg, hk1, HC, hM⟩ := hrel
    have HG := hide hkg
    have c0 := hM.c0; have c1 := hM.c1; have c2 := hM.c2; have c3 := hM.c3
    have o0 := hM.o0; have o1 := hM.o1; have o2 := hM.o2; have o3 := hM.o3; have o4 := hM.o4
    have fs := hM.fs; have fo := hM.fo; have hz := hM.size
    cases gk with
    | zero =>
      obtain rfl : k = s.size := by omega
      clear hkg
      have HR := hide (show classOf s.data.toList = none by unfold classOf; rw [HN.out]; simp only [Bool.false_eq_true, if_false]; rw [← HC.out, cls_end])
      clear HC
      go_wp2
      rw [Exit.noGoto_ret]
      refine bodyPost_ret (v := .tuple #[.agg part0, .int .i64 0]) (by simp [results, Tryz.results134, go_sem, o0, o1, o2, o3, o4]; rfl) rfl ⟨by rw [HR.out]; rfl, ?_⟩
      exact five' hM.below
    | succ g =>
    have hk : k < s.size := by omega
    have kne : ((k : Int) == (s.size : Int)) = false := by rw [beq_eq_false_iff_ne]; omega
    clear hkg
    by_cases h93 : (s[k].toNat : Int) = 93
    · by_cases h1 : k = 1
      · have HR := hide (show classOf s.data.toList = none by unfold classOf; rw [HN.out]; simp only [Bool.false_eq_true, if_false]; rw [← HC.out, decide_eq_true h1, cls_first hk h93])
        have h1' : ¬ (1 : Int) < k := by omega
        have hm : memB 93 = false := rfl
        clear h1 HC
        go_wp2_with (go_at_call 139; refine (member_any _ _).mono ?_; rintro e w1 ⟨rfl, rfl⟩)
        rw [Exit.noGoto_ret]
        refine bodyPost_ret (v := .tuple #[.agg part0, .int .i64 0]) (by simp [results, Tryz.results134, go_sem, o0, o1, o2, o3, o4]; rfl) rfl ⟨by rw [HR.out]; rfl, ?_⟩
        exact five' hM.below
      · have h1' : (1 : Int) < k := by omega
        have HR := hide (show classOf s.data.toList = some ((false, fun x => P x && !spanP 47 48 x), k + 1) by
          unfold classOf; rw [HN.out]; simp only [Bool.false_eq_true, if_false]; rw [← HC.out, decide_eq_false h1, cls_shut hk h93])
        clear h1 HC
        go_wp2
        have kk : IntKind.i64.wrap ((k : Int) + 1) = ((k + 1 : Nat) : Int) := by rw [IntWalk.i64_in _ (by omega)]; rfl
        go_region_held3 (fun w' => w'.cell? ⟨w.heap.size + 1, 0, none⟩ = some (.int .u64 (wd P 0 : Nat)) ∧ w'.cell? ⟨w.heap.size + 1, 1, none⟩ = some (.int .u64 (wd P 1 : Nat)) ∧ w'.cell? ⟨w.heap.size + 1, 2, none⟩ = some (.int .u64 (wd P 2 : Nat)) ∧ w'.cell? ⟨w.heap.size + 1, 3, none⟩ = some (.int .u64 (wd P 3 : Nat))) (first | go_keep | exact ⟨a0, a1, a2, a3⟩ | exact ⟨b0, b1, b2, b3⟩)
          (first
            | (go_at_call 135; refine (span_any 47 47 _ (by omega) (by omega)).mono ?_; rintro e w1 ⟨rfl, hb1⟩; have hM1 := hM.drew.after hb1; have a0 := hM1.c0; have a1 := hM1.c1; have a2 := hM1.c2; have a3 := hM1.c3)
            | (go_at_call 138; refine (without_any P _ _).mono ?_; rintro e w2 ⟨rfl, hb2⟩; have hM2 := hM1.after hb2; have b0 := hM2.c0; have b1 := hM2.c1; have b2 := hM2.c2; have b3 := hM2.c3; have q0 := hM2.o0; have q1 := hM2.o1; have q2 := hM2.o2; have q3 := hM2.o3; have q4 := hM2.o4; have qo := hM2.fo; unfold setV))
        go_wp2
        rw [Exit.noGoto_ret]
        refine bodyPost_ret (v := .tuple #[.agg (partV false (fun x => P x && !spanP 47 48 x)), .int .i64 (k + 1 : Nat)]) (by simp [results, Tryz.results134, go_sem, q0, q1, q2, q3, q4]; rfl) rfl ⟨by rw [HR.out]; rfl, ?_⟩
        exact five' hM2.below
    have d93 : ((s[k].toNat : Int) == 93) = false := beq_eq_false_iff_ne.2 h93
    have hc : ((s[k].toNat : Nat) : Int) < 256 := by have := s[k].toNat_lt; omega
    by_cases hm : memb s[k] = true
    case neg =>
      have hm' : memb s[k] = false := by simpa using hm
      have HR := hide (show classOf s.data.toList = none by unfold classOf; rw [HN.out]; simp only [Bool.false_eq_true, if_false]; rw [← HC.out, cls_bad hk h93 hm'])
      have hmb : memB (s[k].toNat : Int) = false := by rw [memB_byte]; exact hm'
      clear hm hm' HC h93
      go_wp2_with (go_at_call 139; refine (member_any _ _).mono ?_; rintro e w1 ⟨rfl, rfl⟩)
      rw [Exit.noGoto_ret]
      refine bodyPost_ret (v := .tuple #[.agg part0, .int .i64 0]) (by simp [results, Tryz.results134, go_sem, o0, o1, o2, o3, o4]; rfl) rfl ⟨by rw [HR.out]; rfl, ?_⟩
      exact five' hM.below
    case pos =>
      have hmb : memB (s[k].toNat : Int) = true := by rw [memB_byte]; exact hm
      have HM := hide hm
      have H93 := hide h93
      clear hm h93
      have hMd := hM.drew
      go_upto_region 12 with (go_at_call 139; refine (member_any _ _).mono ?_; rintro e w1 ⟨rfl, rfl⟩)
      go_cut [56] (fun s56 wx => s56 = .bool (isRange s k) ∧ wx = wr)
      case first =>
        by_cases h2 : k + 2 < s.size
        · by_cases h45 : (s[k + 1].toNat : Int) = 45
          · by_cases g93 : (s[k + 2].toNat : Int) = 93
            · have HI := hide (show isRange s k = false by simp [isRange, h2, h45, g93])
              clear HC
              go_wp2
              go_meet
              exact ⟨by rw [HI.out], rfl⟩
            · have HI := hide (show isRange s k = true by simp [isRange, h2, h45, g93])
              have e93 : ((s[k + 2].toNat : Int) == 93) = false := beq_eq_false_iff_ne.2 g93
              have e93' : ((s[k + 2].toNat : Int) != 93) = true := by rw [bne, e93]; rfl
              clear g93 HC
              go_wp2
              go_meet
              exact ⟨by rw [HI.out], rfl⟩
          · have HI := hide (show isRange s k = false by simp [isRange, h2, h45])
            have e45 : ((s[k + 1].toNat : Int) == 45) = false := beq_eq_false_iff_ne.2 h45
            clear h45 HC
            go_wp2
            go_meet
            exact ⟨by rw [HI.out], rfl⟩
        · have HI := hide (show isRange s k = false by simp [isRange, h2])
          clear HC
          go_wp2
          go_meet
          exact ⟨by rw [HI.out], rfl⟩
      case rest =>
        obtain ⟨rfl, rfl⟩ := hcut
        cases hG : isRange s k with
        | true =>
          obtain ⟨h2, h45, g93⟩ := isRange_yes hG
          clear hG
          have hc2 : ((s[k + 2].toNat : Nat) : Int) < 256 := by have := s[k + 2].toNat_lt; omega
          have kk2' : (0 : Int) ≤ (k : Int) + 2 := by omega
          have kk3 : (k : Int) + 2 < s.size := by omega
          have kk4 : (k : Int) < s.size := by omega
          cases hm2 : memb s[k + 2] with
          | false =>
            have HR := hide (show classOf s.data.toList = none by unfold classOf; rw [HN.out]; simp only [Bool.false_eq_true, if_false]; rw [← HC.out, cls_range_bad h2 H93.out HM.out h45 g93 (.inl hm2)])
            have hmb2 : memB (s[k + 2].toNat : Int) = false := by rw [memB_byte]; exact hm2
            clear HC hm2 h45 g93
            go_wp2_with fail
            go_quiet ((go_at_call 139; exact Calls.quiet_of_same ((member_any _ _).mono fun _ _ h => ⟨h.1, h.2.symm⟩)))
            go_wp2
            rw [Exit.noGoto_ret]
            refine bodyPost_ret (v := .tuple #[.agg part0, .int .i64 0]) (by simp [results, Tryz.results134, go_sem, o0, o1, o2, o3, o4]; rfl) rfl ⟨by rw [HR.out]; rfl, ?_⟩
            exact below_drewN (five' hM.below) _
          | true =>
            have hmb2 : memB (s[k + 2].toNat : Int) = true := by rw [memB_byte]; exact hm2
            by_cases hlt : s[k + 2].toNat < s[k].toNat
            · have HR := hide (show classOf s.data.toList = none by unfold classOf; rw [HN.out]; simp only [Bool.false_eq_true, if_false]; rw [← HC.out, cls_range_bad h2 H93.out HM.out h45 g93 (.inr hlt)])
              have hlt' : (s[k + 2].toNat : Int) < s[k].toNat := by omega
              clear HC hm2 h45 g93 hlt
              go_wp2_with fail
              go_quiet ((go_at_call 139; exact Calls.quiet_of_same ((member_any _ _).mono fun _ _ h => ⟨h.1, h.2.symm⟩)))
              go_wp2
              rw [Exit.noGoto_ret]
              refine bodyPost_ret (v := .tuple #[.agg part0, .int .i64 0]) (by simp [results, Tryz.results134, go_sem, o0, o1, o2, o3, o4]; rfl) rfl ⟨by rw [HR.out]; rfl, ?_⟩
              exact below_drewN (five' hM.below) _
            · have HS := hide (HC.out.symm.trans (cls_range (P := P) (f := decide (k = 1)) h2 H93.out HM.out h45 g93 hm2 hlt))
              have hlt' : ¬ (s[k + 2].toNat : Int) < s[k].toNat := by omega
              clear HC hm2 h45 g93 hlt
              go_wp2_with fail
              go_quiet ((go_at_call 139; exact Calls.quiet_of_same ((member_any _ _).mono fun _ _ h => ⟨h.1, h.2.symm⟩)))
              go_upto_region 15 with fail
              go_cut [4] (fun s4 wx => s4 = .int .i64 k ∧ Mine w wx (fun x => P x || spanP s[k].toNat (s[k + 2].toNat + 1) x))
              case first =>
                clear fs fo o0 o1 o2 o3 o4
                have kk6 : ((k : Int) + 2).toNat = k + 2 := by omega
                have kk5 : IntKind.i64.wrap ((k : Int) + 2) = (k : Int) + 2 := IntWalk.i64_in _ (by omega)
                go_region_with (first
                  | (go_at_call 135; refine (span_any _ _ _ hc hc2).mono ?_; rintro e w1 ⟨rfl, hb1⟩; have hM1 := hM.afterN hb1; have a0 := hM1.c0; have a1 := hM1.c1; have a2 := hM1.c2; have a3 := hM1.c3; unfold setV)
                  | (go_at_call 140; refine (with_any P _ _).mono ?_; rintro e w2 ⟨rfl, hb2⟩; have hM2 := hM1.after hb2; have b0 := hM2.c0; have b1 := hM2.c1; have b2 := hM2.c2; have b3 := hM2.c3; have qs := hM2.fs; unfold setV))
                all_goals (go_wp2_with fail; go_meet; exact ⟨rfl, hM2.put _⟩)
              case rest =>
                obtain ⟨rfl, hM'⟩ := hcut
                clear hM hMd c0 c1 c2 c3 o0 o1 o2 o3 o4 fs fo hz
                go_wp2
                go_roundg (g - 2)
                case rel => exact ⟨k + 3, _, by go_num, by have := HG.out; omega, by omega, by rw [decide_eq_false (by omega)]; exact hide HS.out.symm, hM'⟩
                case measure => omega
        | false =>
          have hG' := hG
          have HS := hide (HC.out.symm.trans (cls_one (P := P) (f := decide (k = 1)) hk H93.out HM.out (isRange_no hG')))
          clear HC hG hG'
          go_upto_region 7 with fail
          go_cut [4] (fun s4 wx => s4 = .int .i64 k ∧ Mine w wx (fun x => P x || spanP s[k].toNat (s[k].toNat + 1) x))
          case first =>
            clear fs fo o0 o1 o2 o3 o4
            go_region_with (first
              | (go_at_call 135; refine (span_any _ _ _ hc hc).mono ?_; rintro e w1 ⟨rfl, hb1⟩; have hM1 := hMd.after hb1; have a0 := hM1.c0; have a1 := hM1.c1; have a2 := hM1.c2; have a3 := hM1.c3; unfold setV)
              | (go_at_call 140; refine (with_any P _ _).mono ?_; rintro e w2 ⟨rfl, hb2⟩; have hM2 := hM1.after hb2; have b0 := hM2.c0; have b1 := hM2.c1; have b2 := hM2.c2; have b3 := hM2.c3; have qs := hM2.fs; unfold setV))
            all_goals (go_wp2_with fail; go_meet; exact ⟨rfl, hM2.put _⟩)
          case rest =>
            obtain ⟨rfl, hM'⟩ := hcut
            clear hM hMd c0 c1 c2 c3 o0 o1 o2 o3 o4 fs fo hz
            go_wp2
            go_roundg g
            case rel => exact ⟨k + 1, _, by go_num, by have := HG.out; omega, by omega, by rw [decide_eq_false (by omega)]; exact hide HS.out.symm, hM'⟩
            case measure => omega
end Go.Proofs.YteoafohebgfjdaaGreatDoor
