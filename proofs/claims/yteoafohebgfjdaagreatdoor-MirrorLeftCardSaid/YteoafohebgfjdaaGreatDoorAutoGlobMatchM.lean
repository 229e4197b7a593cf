/-
  Texts that belong together: GlobFirstAll, GlobParse, GlobMatchM.
-/
import Derived.Test.YteoafohebgfjdaaGreatDoorAutoGlobClassPlain
import Derived.Test.YteoafohebgfjdaaGreatDoorGlobClassNot
import Derived.Test.YteoafohebgfjdaaGreatDoorAutoGlobPat
import Derived.Test.YteoafohebgfjdaaGreatDoorAutoGlobStep
/-
  What glob.first answers, whatever the text: what firstOf says.
-/
namespace Go.Proofs.YteoafohebgfjdaaGreatDoor
open Go.RowKit
attribute [local go_sem] World.setCell_drewN' World.alloc_drewN'

theorem class_any (s : ByteArray) (w : World) (h0 : 0 < s.size) (hs : (s.size : Int) ≤ 100) :
    Calls Tryz.prog 134 #[.string s] w fun e w' => e = .returned (readV (classOf s.data.toList)) ∧ Below w.heap.size w w' := by
  cases hn : Lib.hasPrefix (s.data.toList.drop 1) [33] with
  | false => exact class_plain s w h0 hs hn
  | true =>
    refine class_not s w ?_ hs hn
    have hl : s.data.toList.length = s.size := by simp
    rcases hd : s.data.toList.drop 1 with _ | ⟨c, r⟩
    · rw [hd] at hn
      cases hn
    · have := congrArg List.length hd
      simp at this
      omega

set_option maxHeartbeats 800000 in
theorem first_class (s : ByteArray) (w : World) (h0 : 0 < s.size) (hs : (s.size : Int) ≤ 100) (d3 : (s[0].toNat : Int) = 91) (hp : Lib.hasPrefix s.data.toList [42, 42] = false) :
    Calls Tryz.prog 123 #[.string s] w fun e w' => e = .returned (readV (classOf s.data.toList)) ∧ Below w.heap.size w w' := by
  have HC := hide (class_any s · h0 hs)
  obtain ⟨r, hr⟩ : ∃ r, classOf s.data.toList = r := ⟨_, rfl⟩
  rw [hr] at HC ⊢
  clear hr
  go_enter Tryz.func123, Tryz.ntmps123
  go_wp2_with fail
  refine (hasPrefix_any _ _ _).mono ?_
  rintro e w1 ⟨rfl, rfl⟩
  rw [show (ByteArray.mk #[42, 42]).data.toList = [42, 42] from rfl, hp]
  go_wp2_with fail
  refine (HC.out _).mono ?_
  rintro e w1 ⟨rfl, hb1⟩
  obtain ⟨hc, hf⟩ := bcell hb1
  have hz : w.heap.size < w1.heap.size := by have := hb1.size; simp at this; omega
  cases r with
  | none =>
    unfold readV part0
    go_wp2
    refine bodyPost_ret (v := .tuple #[.agg part0, .int .i64 0]) (by simp [results, Tryz.results123, go_sem, hc]; rfl) rfl ⟨rfl, ?_⟩
    exact fiveP hb1
  | some pn =>
    obtain ⟨⟨m, P⟩, n⟩ := pn
    unfold readV partV
    go_wp2
    refine bodyPost_ret (v := .tuple #[.agg (partV m P), .int .i64 (n : Nat)]) (by simp [results, Tryz.results123, go_sem, hc]; rfl) rfl ⟨rfl, ?_⟩
    exact fiveP hb1

theorem first_all (s : ByteArray) (w : World) (h0 : 0 < s.size) (hs : (s.size : Int) ≤ 100) :
    Calls Tryz.prog 123 #[.string s] w fun e w' => e = .returned (readV (firstOf s.data.toList)) ∧ Below w.heap.size w w' := by
  have hL := first_of s h0
  cases hp : Lib.hasPrefix s.data.toList [42, 42] with
  | true =>
    have e : firstOf s.data.toList = some ((true, spanP 0 256), 2) := by
      rw [hL] at hp ⊢
      unfold firstOf
      simp only [hp, if_true]
    rw [e]
    exact first_two s w hp
  | false =>
    have nb : ∀ d : UInt8, (s[0].toNat : Int) ≠ d.toNat → (s[0] == d) = false := fun d h => u8_ne h
    have hp' := hp
    rw [hL] at hp'
    by_cases c1 : (s[0].toNat : Int) = 42
    · have e : firstOf s.data.toList = some ((true, inNameP), 1) := by
        rw [hL]
        unfold firstOf
        have : (s[0] == 42) = true := by rw [beq_iff_eq]; exact u8_eq c1
        simp only [hp', Bool.false_eq_true, if_false, this, if_true]
      rw [e]
      exact first_star s w h0 c1 hp
    have d1 : ((s[0].toNat : Int) == 42) = false := beq_eq_false_iff_ne.2 c1
    by_cases c2 : (s[0].toNat : Int) = 63
    · have e : firstOf s.data.toList = some ((false, inNameP), 1) := by
        rw [hL]
        unfold firstOf
        have : (s[0] == 63) = true := by rw [beq_iff_eq]; exact u8_eq c2
        simp only [hp', Bool.false_eq_true, if_false, nb 42 c1, this, if_true]
      rw [e]
      exact first_any1 s w h0 c2 hp
    have d2 : ((s[0].toNat : Int) == 63) = false := beq_eq_false_iff_ne.2 c2
    by_cases c3 : (s[0].toNat : Int) = 91
    · have e : firstOf s.data.toList = classOf s.data.toList := by
        rw [hL]
        unfold firstOf
        have : (s[0] == 91) = true := by rw [beq_iff_eq]; exact u8_eq c3
        simp only [hp', Bool.false_eq_true, if_false, nb 42 c1, nb 63 c2, this, if_true]
      rw [e]
      exact first_class s w h0 hs c3 hp
    have d3 : ((s[0].toNat : Int) == 91) = false := beq_eq_false_iff_ne.2 c3
    by_cases c4 : (s[0].toNat : Int) = 92
    · have e92 : (s[0] == 92) = true := by rw [beq_iff_eq]; exact u8_eq c4
      by_cases h1 : s.size = 1
      · have e : firstOf s.data.toList = none := by
          rw [hL]
          have hd : s.data.toList.drop 1 = [] := List.drop_of_length_le (by simp; omega)
          unfold firstOf
          simp only [hp', Bool.false_eq_true, if_false, nb 42 c1, nb 63 c2, nb 91 c3, e92, if_true]
          rw [hd]
        rw [e]
        exact first_bare s w h0 c4 h1 hp
      · have h1' : 1 < s.size := by omega
        have e : firstOf s.data.toList = some ((false, spanP s[1].toNat (s[1].toNat + 1)), 2) := by
          rw [hL]
          unfold firstOf
          simp only [hp', Bool.false_eq_true, if_false, nb 42 c1, nb 63 c2, nb 91 c3, e92, if_true]
          rw [drop_cons s 1 h1']
        rw [e]
        exact first_escape s w h1' c4 hp
    have d4 : ((s[0].toNat : Int) == 92) = false := beq_eq_false_iff_ne.2 c4
    have e : firstOf s.data.toList = some ((false, spanP s[0].toNat (s[0].toNat + 1)), 1) := by
      rw [hL]
      unfold firstOf
      simp only [hp', Bool.false_eq_true, if_false, nb 42 c1, nb 63 c2, nb 91 c3, nb 92 c4]
    rw [e]
    exact first_single s w h0 d1 d2 d3 d4 hp
end Go.Proofs.YteoafohebgfjdaaGreatDoor
/-
  What glob.Parse answers.
-/
namespace Go.Proofs.YteoafohebgfjdaaGreatDoor
open Go.RowKit
attribute [local go_sem] World.setCell_drewN' World.alloc_drewN'

/-- A pattern that was read, and how. -/
def parseV (s : ByteArray) : Value :=
  if 64 < s.size then .tuple #[.agg (patV []), .int .i64 5] else
  match parseOf s.data.toList with
  | none => .tuple #[.agg (patV []), .int .i64 3]
  | some l => .tuple #[.agg (patV l), .int .i64 0]

theorem load_pat (l : List GPart) (g : Nat) (W : World) (h : W.heap[g]? = some (.cells (patV l) 137 (0, 0))) :
    Sem.run Tryz.prog (loadVar 137 ⟨g, 0, none⟩) W = .ok (.agg (patV l)) W := by
  exact run_loadVar_row W g _ _ _ _ _ h Tryz.underlying137 rfl (by rw [info_pat, patV_size])

set_option maxRecDepth 100000 in
set_option maxHeartbeats 1000000 in
theorem parse_long (s : ByteArray) (w : World) (h0 : (64 : Int) < s.size) :
    Calls Tryz.prog 115 #[.string s] w fun e w' => e = .returned (.tuple #[.agg (patV []), .int .i64 5]) ∧ Below w.heap.size w w' := by
  have hz := zero_pat
  have hb := build_pat
  have hst := store_pat [] [] w.heap.size (w.alloc (Obj.cells (patV []) 137)) (heap_alloc_new _ _)
  have hld := load_pat [] w.heap.size ((w.alloc (Obj.cells (patV []) 137)).setRow w.heap.size (patV [])) (setRow_heap _ _ _ _ _ _ (heap_alloc_new _ _))
  go_enter Tryz.func115, Tryz.ntmps115
  go_wp2
  refine bodyPost_ret (v := .tuple #[.agg (patV []), .int .i64 5]) (by simp [results, Tryz.results115, asAddr, hld]) rfl ⟨rfl, ?_⟩
  exact below_setRow ((Below.refl _ _).alloc (Nat.le_refl _) _) (Nat.le_refl _) _

theorem isEmpty_of {t : ByteArray} (h : t.toList.isEmpty = true) : t.data.toList = [] := by
  rw [Lib.toList_data] at h
  simpa using h
theorem size_pos {t : ByteArray} (h : ¬ t.toList.isEmpty = true) : 0 < t.size := by
  rw [Lib.toList_data] at h
  rw [Lib.size_eq]
  cases ht : t.data.toList with
  | nil => rw [ht] at h; exact absurd rfl h
  | cons c r => simp

set_option maxRecDepth 100000 in
set_option maxHeartbeats 1000000 in
theorem parse_loop (s : ByteArray) (w : World) (h0 : ¬ (64 : Int) < s.size) :
    Calls Tryz.prog 115 #[.string s] w fun e w' => e = .returned (match parseOf s.data.toList with
      | none => .tuple #[.agg (patV []), .int .i64 3]
      | some l => .tuple #[.agg (patV l), .int .i64 0]) ∧ Below w.heap.size w w' := by
  have hz := zero_pat
  have hb := build_pat
  obtain ⟨R, hR⟩ : ∃ R, parseOf s.data.toList = R := ⟨_, rfl⟩
  rw [hR]
  have HR := hide hR
  clear hR
  go_enter Tryz.func115, Tryz.ntmps115
  go_wp2
  go_loopg [0] s.size (fun g s0 wr => ∃ (t : ByteArray) (l : List GPart), s0 = .string t ∧ l.length + t.size ≤ 64 ∧ t.size ≤ g ∧ Hid ((parseOf t.data.toList).map (l ++ ·) = R) ∧ PMine w wr l)
  case atStart => exact ⟨s, [], rfl, by simp; omega, Nat.le_refl _, by rw [HR.out]; cases R <;> exact hide rfl, PMine.start w⟩
  case round =>
    obtain ⟨t, l, rfl, hl, hg, HT, hM⟩ := hrel
    by_cases he : t.toList.isEmpty = true
    · have hR : R = some l := by
        have := HT.out
        rw [isEmpty_of he, parseOf_nil] at this
        simpa using this.symm
      clear HT hz
      subst hR
      have hst := store_pat [] l w.heap.size wr hM.out
      have hld2 := load_pat l w.heap.size (wr.setRow w.heap.size (patV l)) (setRow_heap _ _ _ _ _ _ hM.out)
      have hsz : (Tryz.prog.info? 137).map (·.size) = some (patV l).size := by rw [info_pat, patV_size]
      have hpat := hM.pat
      go_wp2
      refine wp_load_row 137 (.tmp 4) rfl (w.heap.size + 1) rfl 137 _ (0, 0) _ hpat Tryz.underlying137 rfl hsz ?_
      rename_i hK
      refine hK _ _ ?_
      clear hK hpat hsz
      have hps := patV_size l
      go_wp2
      refine bodyPost_ret (v := .tuple #[.agg (patV l), .int .i64 0]) (by simp [results, Tryz.results115, asAddr, hld2]) rfl ⟨rfl, ?_⟩
      exact below_setRow hM.below (Nat.le_refl _) _
    · have he' : t.toList.isEmpty = false := by simpa using he
      have hts : 0 < t.size := size_pos he
      have hnil : t.data.toList ≠ [] := fun h => by rw [Lib.size_eq, h] at hts; simp at hts
      clear he
      go_wp2_with fail
      refine (first_all t _ hts (by omega)).mono ?_
      rintro e w1 ⟨rfl, hb1⟩
      have hM1 := hM.after hb1
      have hz1 := hM1.size
      cases hr : firstOf t.data.toList with
      | none =>
        have hR : R = none := by
          have := HT.out
          rw [parseOf_bad hnil hr] at this
          simpa using this.symm
        clear HT hr
        subst hR
        have hM2 := hM1.alloc (Obj.cells part0 134)
        have hst := store_pat [] [] w.heap.size _ hM2.out
        have hld2 := load_pat [] w.heap.size _ (setRow_heap _ _ _ (patV []) _ _ hM2.out)
        unfold part0 at hst hld2
        unfold readV part0
        go_wp2
        refine bodyPost_ret (v := .tuple #[.agg (patV []), .int .i64 3]) (by simp [results, Tryz.results115, asAddr, hld2]) rfl ⟨rfl, ?_⟩
        exact below_setRow hM2.below (Nat.le_refl _) _
      | some pn =>
        obtain ⟨⟨m, P⟩, n⟩ := pn
        have hn := firstOf_le _ _ _ hr
        rw [← Lib.size_eq] at hn
        have hn1 : (1 : Int) ≤ n := by omega
        have hn2 : (n : Int) ≤ t.size := by omega
        have hn3 : ((n : Int) == 0) = false := by rw [beq_eq_false_iff_ne]; omega
        have hl' : (l.length : Int) < 64 := by omega
        have HS := hide (show (parseOf (t.extract n t.size).data.toList).map ((l ++ [(m, P)]) ++ ·) = R by
          rw [extract_end, ← HT.out, parseOf_step hr]
          cases parseOf (t.data.toList.drop n) <;> simp)
        have n0 := hM1.n0
        have x0 := hM1.cx (1 + l.length * 5) (by omega)
        have x1 := hM1.cx (1 + l.length * 5 + 1) (by omega)
        have x2 := hM1.cx (1 + l.length * 5 + 2) (by omega)
        have x3 := hM1.cx (1 + l.length * 5 + 3) (by omega)
        have x4 := hM1.cx (1 + l.length * 5 + 4) (by omega)
        have fz := hM1.fz
        clear hr HT hb hz
        unfold readV partV
        go_wp2
        have hsz : (t.extract n t.size).size = t.size - n := by simp [ByteArray.size_extract]
        go_roundg (gk - n)
        case rel => exact ⟨t.extract n t.size, l ++ [(m, P)], rfl, by rw [hsz]; simp; omega, by rw [hsz]; omega, HS, (hM1.put m P (by omega)).alloc _⟩
        case measure => omega

theorem parse_any (s : ByteArray) (w : World) :
    Calls Tryz.prog 115 #[.string s] w fun e w' => e = .returned (parseV s) ∧ Below w.heap.size w w' := by
  unfold parseV
  by_cases h : 64 < s.size
  · rw [if_pos h]
    exact parse_long s w (by omega)
  · rw [if_neg h]
    exact parse_loop s w (by omega)
end Go.Proofs.YteoafohebgfjdaaGreatDoor
/-
  Which texts are a pattern's: what the method Match, and the function Match, answer.
-/
namespace Go.Proofs.YteoafohebgfjdaaGreatDoor
open Go.RowKit
attribute [local go_sem] World.setCell_drewN' World.alloc_drewN'

/-- From what is reached on, all of a text's bytes. -/
def matchR (l : List GPart) : (Nat → Bool) → List UInt8 → Bool
  | r, [] => r l.length
  | r, c :: u => if (stepN l r c.toNat l.length).2 then matchR l (stepN l r c.toNat l.length).1 u else false
def matchP (l : List GPart) (u : List UInt8) : Bool := matchR l (leR (lead l)) u

/-- The call's own two blocks: the pattern's, and what is reached (block A). -/
structure QMine (w wr : World) (A : Nat) (l : List GPart) (r : Nat → Bool) : Prop where
  below : Below w.heap.size w wr
  first : w.heap.size < A
  size : A < wr.heap.size
  pat : wr.heap[w.heap.size]? = some (.cells (patV l) 137 (0, 0))
  at_ : wr.heap[A]? = some (.cells (reachV r) 156 (0, 0))
section
variable {w wr w1 : World} {A : Nat} {l : List GPart} {r : Nat → Bool}
theorem QMine.after (h : QMine w wr A l r) (hb : Below wr.heap.size wr w1) : QMine w w1 A l r :=
  ⟨h.below.trans (hb.mono h.below.size), h.first, Nat.lt_of_lt_of_le h.size hb.size, (hb.block _ (by have := h.size; have := h.first; omega)).trans h.pat, (hb.block _ h.size).trans h.at_⟩
theorem QMine.put (h : QMine w wr A l r) (r' : Nat → Bool) : QMine w (wr.setRow A (reachV r')) A l r' :=
  ⟨below_setRow h.below (Nat.le_of_lt h.first) _, h.first, by simpa using h.size, (setRow_other _ _ _ _ (by have := h.first; omega)).trans h.pat, setRow_heap _ _ _ _ _ _ h.at_⟩
theorem QMine.other (h : QMine w wr A l r) (g : Nat) (cs : Array Value) (hg : A < g) : QMine w (wr.setRow g cs) A l r :=
  ⟨below_setRow h.below (by have := h.first; omega) _, h.first, by simpa using h.size, (setRow_other _ _ _ _ (by have := h.first; omega)).trans h.pat, (setRow_other _ _ _ _ (by omega)).trans h.at_⟩
theorem QMine.alloc (h : QMine w wr A l r) (o : Obj) : QMine w (wr.alloc o) A l r := h.after ((Below.refl _ _).alloc (Nat.le_refl _) o)
end

theorem matchR_end {l : List GPart} {r : Nat → Bool} {s : ByteArray} : matchR l r (s.data.toList.drop s.size) = r l.length := by
  rw [List.drop_of_length_le (by simp)]
  rfl
theorem matchR_step {l : List GPart} {r : Nat → Bool} {s : ByteArray} {k : Nat} (h : k < s.size) :
    matchR l r (s.data.toList.drop k) = if (stepN l r s[k].toNat l.length).2 then matchR l (stepN l r s[k].toNat l.length).1 (s.data.toList.drop (k + 1)) else false := by
  rw [drop_cons s k h, matchR]

set_option maxRecDepth 100000 in
set_option maxHeartbeats 600000 in
theorem matchM_any (l : List GPart) (s : ByteArray) (w : World) (hl : l.length ≤ 64) (hs : (s.size : Int) ≤ 9223372036854775806) :
    Calls Tryz.prog 117 #[.agg (patV l), .string s] w fun e w' => e = .returned (.bool (matchP l s.data.toList)) ∧ Below w.heap.size w w' := by
  have hz := zero_reach
  obtain ⟨R, hR⟩ : ∃ R, matchP l s.data.toList = R := ⟨_, rfl⟩
  rw [hR]
  have HR := hide hR
  clear hR
  go_enter Tryz.func117, Tryz.ntmps117
  go_wp2_with fail
  refine (start_any w.heap.size l _ hl (by simp) (heap_alloc_new _ _)).mono ?_
  rintro e w1 ⟨rfl, hb1⟩
  have hst := store_reach noneR (leR (lead l)) w1.heap.size (w1.alloc (Obj.cells (reachV noneR) 156)) (heap_alloc_new _ _)
  have hps := reachV_size (leR (lead l))
  go_wp2
  have hA : w.heap.size < w1.heap.size := by have := hb1.size; simp at this; omega
  have hM0 : QMine w ((w1.alloc (Obj.cells (reachV noneR) 156)).setRow w1.heap.size (reachV (leR (lead l)))) w1.heap.size l (leR (lead l)) :=
    ⟨below_setRow ((((Below.refl _ w).alloc (Nat.le_refl _) _).trans (hb1.mono (by simp))).alloc (Nat.le_of_lt hA) _) (Nat.le_of_lt hA) _, hA, by simp,
      (setRow_other _ _ _ _ (by omega)).trans ((Below.heap_alloc _ _ _ hA).trans ((hb1.block _ (by simp)).trans (heap_alloc_new _ _))), setRow_heap _ _ _ _ _ _ (heap_alloc_new _ _)⟩
  obtain ⟨A, eA⟩ : ∃ A, A = w1.heap.size := ⟨_, rfl⟩
  rw [← eA] at hM0 ⊢
  rw [← eA] at hA
  clear hst eA hb1 hA
  go_loopg [12] s.size (fun g i wr => ∃ (k : Nat) (r : Nat → Bool), i = .int .i64 k ∧ k + g = s.size ∧ Hid (matchR l r (s.data.toList.drop k) = R) ∧ QMine w wr A l r)
  case atStart => exact ⟨0, leR (lead l), rfl, by omega, HR.out, hM0⟩
  case round =>
    obtain ⟨k, r, rfl, hkg, HT, hM⟩ := hrel
    clear hM0 hps
    have HG := hide hkg
    cases gk with
    | zero =>
      obtain rfl : k = s.size := by omega
      have hfin : r l.length = R := by rw [← HT.out, matchR_end]
      have HF := hide hfin
      have n0 := pat_n hM.pat
      have x0 : wr.cell? ⟨A, l.length, none⟩ = some (.bool (r l.length)) := by rw [cell_of_row _ _ _ _ _ _ hM.at_, reachV_get _ _ (by omega)]
      have hl1 : (l.length : Int) < 65 := by omega
      clear hfin hkg
      go_wp2
      go_ret
      exact ⟨by rw [← HF.out]; rfl, hM.below⟩
    | succ g =>
      have hk : k < s.size := by omega
      have hk1 : (k : Int) < s.size := by omega
      have hc : ((s[k].toNat : Nat) : Int) < 256 := by have := s[k].toNat_lt; omega
      have hstep := step_any w.heap.size A l r s[k].toNat wr hc hl (by have := hM.size; have := hM.first; omega) hM.size hM.pat hM.at_
      have hT := HT.out
      rw [matchR_step hk] at hT
      obtain ⟨nx, h1⟩ : ∃ nx, (stepN l r s[k].toNat l.length).1 = nx := ⟨_, rfl⟩
      obtain ⟨sm, h2⟩ : ∃ sm, (stepN l r s[k].toNat l.length).2 = sm := ⟨_, rfl⟩
      rw [h1, h2] at hstep hT
      have HC := hide hstep
      clear hstep h1 h2 HT hkg
      cases sm with
      | false =>
        have hF : R = false := by simpa using hT.symm
        have HF := hide hF
        clear hT hF
        go_wp2_with fail
        refine HC.out.mono ?_
        rintro e w2 ⟨rfl, hb2⟩
        have hM2 := hM.after hb2
        have hst := store_reach noneR nx w2.heap.size (w2.alloc (Obj.cells (reachV noneR) 156)) (heap_alloc_new _ _)
        have hps := reachV_size nx
        go_wp2
        go_ret
        exact ⟨by rw [HF.out]; rfl, ((hM2.alloc _).other _ _ hM2.size).below⟩
      | true =>
        have HT := hide (show matchR l nx (s.data.toList.drop (k + 1)) = R by simpa using hT)
        clear hT
        go_wp2_with fail
        refine HC.out.mono ?_
        rintro e w2 ⟨rfl, hb2⟩
        have hM2 := hM.after hb2
        have hst := store_reach noneR nx w2.heap.size (w2.alloc (Obj.cells (reachV noneR) 156)) (heap_alloc_new _ _)
        have hps := reachV_size nx
        have hM3 := (hM2.alloc (Obj.cells (reachV noneR) 156)).other w2.heap.size (reachV nx) hM2.size
        have hst2 := store_reach r nx A _ hM3.at_
        have hld : ((w2.alloc (Obj.cells (reachV noneR) 156)).setRow w2.heap.size (reachV nx)).heap[w2.heap.size]? = some (.cells (reachV nx) 156 (0, 0)) := setRow_heap _ _ _ _ _ _ (heap_alloc_new _ _)
        have hsz : (Tryz.prog.info? 156).map (·.size) = some (reachV nx).size := by rw [info_reach, reachV_size]
        go_wp2_with (with_reducible refine wpList_load_row rfl 156 (.tmp 7) rfl w2.heap.size rfl 156 _ (0, 0) _ hld Tryz.underlying156 rfl hsz ?_)
        go_roundg g
        case rel => exact ⟨k + 1, nx, by go_num, by have := HG.out; omega, HT, hM3.put nx⟩
        case measure => omega

theorem parseN_len (k : Nat) : ∀ (L : List UInt8) (l : List GPart), parseN k L = some l → l.length ≤ L.length := by
  induction k with
  | zero =>
    intro L l h
    cases L with
    | nil => simp [parseN] at h; subst h; simp
    | cons c r => cases h
  | succ k ih =>
    intro L l h
    cases L with
    | nil => simp [parseN] at h; subst h; simp
    | cons c r =>
      rw [parseN_cons] at h
      cases hf : firstOf (c :: r) with
      | none => rw [hf] at h; cases h
      | some pn =>
        obtain ⟨p, n⟩ := pn
        have hn := firstOf_le _ _ _ hf
        rw [hf] at h
        simp only [Option.map_eq_some_iff] at h
        obtain ⟨l', hl', rfl⟩ := h
        have := ih _ _ hl'
        simp only [List.length_drop, List.length_cons] at *
        omega

/-- What the function Match answers. -/
def globM (p s : ByteArray) : Bool :=
  if 64 < p.size then false else
  match parseOf p.data.toList with
  | none => false
  | some l => matchP l s.data.toList

end Go.Proofs.YteoafohebgfjdaaGreatDoor
