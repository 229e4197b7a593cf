/-
  Texts that belong together: EdRefParse, EdTextsMath, EdTextsLaw.
-/
import Derived.Test.YtlohoamhgioheaaDoorEdTb
import Derived.Test.YtlohoamhgioheaaDoorEdRefRead
import Derived.Test.YtlohoamhgioheaaDoorAutoEdEq
import Derived.Test.YtlohoamhgioheaaDoorEdTa
/-
  The reference's Parse.
-/
namespace Go.Proofs.YtlohoamhgioheaaDoor
open Go.RowKit
set_option maxRecDepth 100000

theorem index_at : ∀ (l r : List UInt8), (∀ c ∈ l, c ≠ 10) → Lib.indexByte (l ++ 10 :: r) 10 = l.length
  | [], r, _ => by unfold Lib.indexByte; simp
  | c :: l, r, h => by
    have hc : (c == 10) = false := by simpa using h c List.mem_cons_self
    have ih := index_at l r (fun d hd => h d (List.mem_cons_of_mem _ hd))
    rw [List.cons_append]
    unfold Lib.indexByte
    rw [hc, ih]
    have : ((l.length : Int) == -1) = false := by rw [beq_eq_false_iff_ne]; omega
    simp [this]
theorem index_no : ∀ l : List UInt8, (∀ c ∈ l, c ≠ 10) → Lib.indexByte l 10 = -1
  | [], _ => rfl
  | c :: l, h => by
    have hc : (c == 10) = false := by simpa using h c List.mem_cons_self
    have ih := index_no l (fun d hd => h d (List.mem_cons_of_mem _ hd))
    unfold Lib.indexByte
    rw [hc, ih]
    rfl
theorem lines_cut (l r : List UInt8) (h : ∀ c ∈ l, c ≠ 10) : linesL (l ++ 10 :: r) = (l ++ [10]) :: linesL r := by
  have h1 := (lines_some _ _ (index_at l r h)).1
  rw [h1]
  have e1 : (l ++ 10 :: r).take (l.length + 1) = l ++ [10] := by rw [List.take_append, List.take_of_length_le (by omega)]; simp
  have e2 : (l ++ 10 :: r).drop (l.length + 1) = r := by rw [List.drop_append]; simp
  rw [e1, e2]
theorem ok_cut (x : ByteArray) : okLine (toL x ++ [10]) = okR x ∧ edOf (toL x ++ [10]) = readT x := by
  have e : (⟨(toL x ++ [10]).dropLast.toArray⟩ : ByteArray) = x := bytes_ext (by simp [toL])
  unfold okLine edOf
  rw [e]
  exact ⟨by simp, rfl⟩
theorem ok_rest (l : List UInt8) (h : ∀ c ∈ l, c ≠ 10) : okLine l = false := by
  unfold okLine
  have : (l.getLast? == some 10) = false := by
    rw [beq_eq_false_iff_ne]
    intro e
    exact h 10 (List.mem_of_getLast? e) rfl
  rw [this]; rfl
/-- What the reference's Parse answers. -/
def RefParseTo (s : ByteArray) (w : World) (e : Ending) (w' : World) : Prop :=
  Below w.heap.size w w' ∧ ((badAt 0 (linesL (toL s)) ≠ 0 ∧ e = .returned (.tuple #[.slice none 0 0, .int .i64 (badAt 0 (linesL (toL s)) : Nat)])) ∨
    (badAt 0 (linesL (toL s)) = 0 ∧ ∃ (A : Option Addr) (es : List Et) (c : Nat), e = .returned (.tuple #[.slice A es.length c, .int .i64 0]) ∧ es = (linesL (toL s)).map edOf ∧ RdE w' w'.heap.size A es))

set_option maxHeartbeats 8000000 in
theorem refEParse_any (s : ByteArray) (w : World) (hs : (s.size : Int) ≤ 100000) :
    Calls Tryd.prog 19 #[.string s] w (RefParseTo s w) := by
  obtain ⟨i0, hi, hz0, hz1, hz2⟩ := info_parts info_edit
  have HRead := hide (fun x W (hx : (x.size : Int) ≤ 300000) => refERead_any x W hx)
  obtain ⟨T, hT⟩ : ∃ T, T = linesL (toL s) := ⟨_, rfl⟩
  have HBadP := hide (show ∀ e w', Below w.heap.size w w' → badAt 0 T ≠ 0 → e = .returned (.tuple #[.slice none 0 0, .int .i64 (badAt 0 T : Nat)]) → RefParseTo s w e w' from fun e w' h1 h2 h3 => ⟨h1, .inl (by rw [← hT]; exact ⟨h2, h3⟩)⟩)
  have HGoodP := hide (show ∀ e w' (A : Option Addr) (es : List Et) (c : Nat), Below w.heap.size w w' → badAt 0 T = 0 → e = .returned (.tuple #[.slice A es.length c, .int .i64 0]) → es = T.map edOf → RdE w' w'.heap.size A es → RefParseTo s w e w' from
    fun e w' A es c h1 h2 h3 h4 h5 => ⟨h1, .inr (by rw [← hT]; exact ⟨h2, A, es, c, h3, h4, h5⟩)⟩)
  have HT := hide hT
  have HS := hide hs
  clear hT
  go_enter Tryd.func19, Tryd.ntmps19
  go_wp2_with fail
  go_loopg [4, 5, 6, 7] s.size (fun gk ov lv nv iv wr => ∃ (i : Nat) (x : ByteArray) (es : List Et) (A : Option Addr) (c : Nat), ov = .slice A es.length c ∧ lv = .string x ∧ nv = .int .i64 ((es.length : Int) + 1) ∧ iv = .int .i64 i ∧ i + gk = s.size ∧ x.size ≤ i ∧ es.length ≤ i ∧ Hid (∀ c ∈ toL x, c ≠ 10) ∧
    wr.ownsRow w.heap.size 23 4 (.slice A es.length c) es.length (cellsE es) ∧ Below w.heap.size w wr ∧ Hid (badAt 0 T = badAt es.length (linesL (toL x ++ (toL s).drop i))) ∧ Hid (T.map edOf = es ++ (linesL (toL x ++ (toL s).drop i)).map edOf))
  case atStart => exact ⟨0, ⟨#[]⟩, [], none, 0, rfl, rfl, rfl, rfl, by omega, Nat.le_refl _, Nat.le_refl _, hide (fun c hc => by cases hc), World.ownsRow_nil _ _ _ _, Below.refl _ _, hide (by rw [HT.out]; rfl), hide (by rw [HT.out]; rfl)⟩
  case round =>
    obtain ⟨i, x, es, A, c, rfl, rfl, rfl, rfl, hig, hxi, hei, HX, hown, hB, HBd, HEd⟩ := hrel
    cases gk with
    | zero =>
      obtain rfl : i = s.size := by omega
      have hd : toL x ++ (toL s).drop s.size = toL x := by
        rw [List.drop_of_length_le (by simp [toL])]; simp
      cases hx : x.toList.isEmpty with
      | true =>
        have hx0 := (toL_empty_iff x).1 hx
        have HB0 := hide (show badAt 0 T = 0 by rw [HBd.out, hd, hx0]; rfl)
        have HE0 := hide (show es = T.map edOf by rw [HEd.out, hd, hx0]; simp [lines_nil])
        have hF := hide (HGoodP.out _ wr A es c hB HB0.out rfl HE0.out (RdE.own hown))
        clear HBd HEd hd hx0
        go_wp2_with fail
        exact bodyPost_ret (v := .tuple #[.slice A es.length c, .int .i64 0]) (by simp [results, Tryd.results19, go_sem]) rfl hF.out
      | false =>
        have hx0 : toL x ≠ [] := fun e => by rw [(toL_empty_iff x).2 e] at hx; cases hx
        have hln : linesL (toL x) = [toL x] := lines_none _ (index_no _ HX.out) hx0
        have HN := hide (show badAt 0 T = es.length + 1 by rw [HBd.out, hd, hln]; exact bad_no (ok_rest _ HX.out))
        have hF := hide (HBadP.out (.returned (.tuple #[.slice none 0 0, .int .i64 ((es.length : Int) + 1)])) wr hB (by rw [HN.out]; omega) (by rw [HN.out]; rfl))
        clear HBd HEd hd hx0 hln
        go_wp2_with fail
        exact bodyPost_ret (v := .tuple #[.slice none 0 0, .int .i64 ((es.length : Int) + 1)]) (by simp [results, Tryd.results19, go_sem]) rfl hF.out
    | succ g0 =>
      have hii : (i : Int) < s.size := by omega
      have hin : i < s.size := by omega
      have hdr : (toL s).drop i = s[i] :: (toL s).drop (i + 1) := by
        rw [List.drop_eq_getElem_cons (by simpa [toL] using hin)]; rfl
      by_cases hc : s[i] = 10
      · have hlc : linesL (toL x ++ (toL s).drop i) = (toL x ++ [10]) :: linesL ((toL s).drop (i + 1)) := by rw [hdr, hc]; exact lines_cut _ _ HX.out
        have hci : ((s[i].toNat : Int) != 10) = false := by rw [hc]; rfl
        have hb1 := HBd.out
        have he1 := HEd.out
        rw [hlc] at hb1 he1
        obtain ⟨o1, o2⟩ := ok_cut x
        have HRd := hide (HRead.out x wr (by omega))
        obtain ⟨R, hR⟩ : ∃ R, R = readT x := ⟨_, rfl⟩
        rw [← hR] at HRd o2
        obtain ⟨k, f, t, n⟩ := R
        simp only [Et.cells] at HRd
        have HB1 := hide hb1
        have HE1 := hide he1
        have HO1 := hide o1
        have HO2 := hide o2
        have HBw := hide hB
        have HOwn := hide hown
        clear hlc hb1 he1 o1 o2 hR HBd HEd hdr hc hB hown
        go_wp2_with fail
        refine (HRd.out).mono ?_
        rintro e w2 ⟨rfl, hb2⟩
        obtain ⟨w3, hw3⟩ : ∃ w3, w3 = w2.alloc (.cells #[.int .i64 k, .string f, .string t, .int .i64 n] 23) := ⟨_, rfl⟩
        have hb3 : Below wr.heap.size wr w3 := by rw [hw3]; exact hb2.alloc hb2.size _
        have HB3 := hide (HBw.out.trans (hb3.mono HBw.out.size))
        have HOwn3 := hide (HOwn.out.kept (grownBy_below hb3) (by cases (Value.slice A es.length c).ownBlock <;> simp))
        have he3 : w3.heap[w2.heap.size]? = some (.cells #[.int .i64 k, .string f, .string t, .int .i64 n] 23 (0, 0)) := by rw [hw3]; exact World.alloc_heap_new _ _
        have k0 : w3.cell? ⟨w2.heap.size, 0, none⟩ = some (.int .i64 k) := cell_of_row _ _ _ _ _ _ he3
        have k1 : w3.cell? ⟨w2.heap.size, 1, none⟩ = some (.string f) := cell_of_row _ _ _ _ _ _ he3
        have k2 : w3.cell? ⟨w2.heap.size, 2, none⟩ = some (.string t) := cell_of_row _ _ _ _ _ _ he3
        have k3 : w3.cell? ⟨w2.heap.size, 3, none⟩ = some (.int .i64 n) := cell_of_row _ _ _ _ _ _ he3
        have HS3 := hide (show w.heap.size ≤ w2.heap.size from Nat.le_trans HBw.out.size hb2.size)
        have hw3' := hide hw3
        clear hb2 hb3 he3
        cases ho : okR x with
        | false =>
          have HN := hide (show badAt 0 T = es.length + 1 by rw [HB1.out]; exact bad_no (by rw [HO1.out]; exact ho))
          have hF := hide (HBadP.out (.returned (.tuple #[.slice none 0 0, .int .i64 ((es.length : Int) + 1)])) w3 HB3.out (by rw [HN.out]; omega) (by rw [HN.out]; rfl))
          rw [hw3] at k0 k1 k2 k3 hF
          clear ho hw3
          go_wp2_with fail
          exact bodyPost_ret (v := .tuple #[.slice none 0 0, .int .i64 ((es.length : Int) + 1)]) (by simp [results, Tryd.results19, go_sem]) rfl hF.out
        | true =>
          have HB4 := hide (show badAt 0 T = badAt (es.length + 1) (linesL ((toL s).drop (i + 1))) by rw [HB1.out]; exact bad_ok (by rw [HO1.out]; exact ho))
          have HE4 := hide (show T.map edOf = (es ++ [(⟨k, f, t, n⟩ : Et)]) ++ (linesL ((toL s).drop (i + 1))).map edOf by
            rw [HE1.out, List.map_cons, HO2.out]; simp)
          have ho3 := HOwn3.out
          have hel : (es.length : Int) ≤ 100000 := by have := HS.out; omega
          have hs3 := HS3.out
          rw [hw3] at k0 k1 k2 k3 ho3
          clear ho hw3
          have n1 : IntKind.i64.wrap ((es.length : Int) + 1) = ((es.length + 1 : Nat) : Int) := by rw [IntWalk.i64_in _ (by omega)]; rfl
          have n2 : IntKind.i64.wrap ((es.length : Int) + 1 + 1) = (((es.length + 1 : Nat) : Int) + 1) := by rw [IntWalk.i64_in _ (by omega)]; rfl
          have n3 : IntKind.i64.wrap ((i : Int) + 1) = ((i + 1 : Nat) : Int) := by rw [IntWalk.i64_in _ (by omega)]; rfl
          go_wp2_with (at_builtin; refine wpList_append_own _ rfl _ _ 25 rfl w.heap.size 23 i0 _ 4 48 Tryd.underlying25 hi hz0 hz1 hz2 rfl (by decide) _ _ _ rfl (ho3.alloc _) ⟨w2.heap.size + 1, 0, none⟩ 1 1 [.int .i64 k, .string f, .string t, .int .i64 n] rfl rfl (cells_new4 _ _ _ _ _ _ _) (by simp [Value.oneCell']) (by unfold maxLen; omega) (by omega) (by simp; omega) ?_)
          intro v' w' hO' hg hnil
          obtain ⟨g', cap', rfl⟩ := ownsRow_succ hO'
          rw [← hw3'.out] at hg
          have HB5 := hide ((HB3.out.alloc HB3.out.size _).grown hg (by have := HB3.out.size; simp; omega) (fun r e => (HOwn3.out.lt r e).1))
          have HO5 := hide (show w'.ownsRow w.heap.size 23 4 (.slice (some ⟨g', 0, none⟩) (es ++ [(⟨k, f, t, n⟩ : Et)]).length cap') (es ++ [(⟨k, f, t, n⟩ : Et)]).length (cellsE (es ++ [(⟨k, f, t, n⟩ : Et)])) by
            rw [cellsE_snoc, List.length_append]; exact hO')
          clear hO' hg hnil ho3 k0 k1 k2 k3
          go_wp2_with fail
          go_roundg g0
          case rel => exact ⟨i + 1, ⟨#[]⟩, es ++ [(⟨k, f, t, n⟩ : Et)], some ⟨g', 0, none⟩, cap', by simp, rfl, by simp, by simp, by omega, Nat.zero_le _, by simp; omega, hide (fun c hc => by cases hc), HO5.out, HB5.out, hide (by rw [HB4.out]; simp [toL]), hide (by rw [HE4.out]; simp [toL])⟩
          case measure => omega
      · have hci : ((s[i].toNat : Int) != 10) = true := by
          rw [bne_iff_ne]
          intro e
          exact hc (UInt8.toNat_inj.1 (by have : (10 : UInt8).toNat = 10 := rfl; omega))
        have hl2 : toL (x ++ s.extract i (i + 1)) = toL x ++ [s[i]] := by
          rw [toL_app, toL_ext, List.drop_eq_getElem_cons (by simpa [toL] using hin), show i + 1 - i = 1 by omega]; rfl
        have HX2 := hide (show ∀ c ∈ toL (x ++ s.extract i (i + 1)), c ≠ 10 by
          rw [hl2]
          intro c hcm
          rcases List.mem_append.1 hcm with h | h
          · exact HX.out c h
          · simp at h; rw [h]; exact hc)
        have he : toL (x ++ s.extract i (i + 1)) ++ (toL s).drop (i + 1) = toL x ++ (toL s).drop i := by rw [hl2, hdr]; simp
        have HB2 := hide (show badAt 0 T = badAt es.length (linesL (toL (x ++ s.extract i (i + 1)) ++ (toL s).drop (i + 1))) by rw [he]; exact HBd.out)
        have HE2 := hide (show T.map edOf = es ++ (linesL (toL (x ++ s.extract i (i + 1)) ++ (toL s).drop (i + 1))).map edOf by rw [he]; exact HEd.out)
        have n3 : IntKind.i64.wrap ((i : Int) + 1) = (i : Int) + 1 := IntWalk.i64_in _ (by omega)
        have n4 : ((i : Int) + 1).toNat = i + 1 := by omega
        have n5 : (i : Int) + 1 ≤ s.size := by omega
        have n6 : (i : Int) ≤ (i : Int) + 1 := by omega
        have n7 : (0 : Int) ≤ (i : Int) + 1 := by omega
        have n8 : ¬ 9223372036854775807 < x.size + (min (i + 1) s.size - i) := by omega
        clear hl2 he HBd HEd hdr hc
        go_wp2_with fail
        go_roundg g0
        case rel => exact ⟨i + 1, x ++ s.extract i (i + 1), es, A, c, rfl, rfl, rfl, rfl, by omega, by simp; omega, by omega, HX2, hown, hB, HB2, HE2⟩
        case measure => omega
end Go.Proofs.YtlohoamhgioheaaDoor
/-
  The lines of right edits, read as they were: plain.
-/
namespace Go.Proofs.YtlohoamhgioheaaDoor
open Go.RowKit
set_option maxRecDepth 100000

theorem right_not {l : List UInt8} {b : UInt8} (h : rightL l = true) (hl : letter b.toNat = false) (h47 : b ≠ 47) : ∀ c ∈ l, c ≠ b := by
  intro c hc e
  subst e
  unfold rightL at h
  cases he : l.isEmpty with
  | true => rw [List.isEmpty_iff.1 he] at hc; cases hc
  | false =>
    rw [he, Bool.false_or, Bool.and_eq_true] at h
    have := split_each (P := fun c => letter c.toNat = true) l (fun x hx c hc => by
      have hn := List.all_eq_true.1 h.1 x hx
      unfold nameL at hn
      simp only [Bool.and_eq_true] at hn
      exact List.all_eq_true.1 hn.2 c hc) c hc
    rcases this with h1 | h1
    · exact h47 h1
    · rw [hl] at h1; cases h1
theorem word_feed (k : Int) : ∀ c ∈ wordL k, c ≠ 10 := by
  by_cases h : wordL k = []
  · rw [h]; simp
  · rcases kinds_cases h with rfl | rfl | rfl | rfl | rfl | rfl | rfl | rfl | rfl <;> decide
theorem digits_feed : ∀ n < 512, ∀ c ∈ Lib.itoa (n : Nat), c ≠ 10 := by decide +kernel
theorem join_mem {c : UInt8} : ∀ (x : List UInt8) (l : List (List UInt8)), c ∈ Lib.join (x :: l) [32] → c = 32 ∨ ∃ y ∈ x :: l, c ∈ y
  | x, l, h => by
    rw [Lib.join_cons, List.mem_append] at h
    rcases h with h | h
    · exact .inr ⟨x, List.mem_cons_self, h⟩
    · unfold Lib.joinTail at h
      obtain ⟨y, hy, hc⟩ := List.mem_flatten.1 h
      obtain ⟨z, hz, rfl⟩ := List.mem_map.1 hy
      rcases List.mem_append.1 hc with h1 | h1
      · left; simpa using h1
      · exact .inr ⟨z, List.mem_cons_of_mem _ hz, h1⟩
theorem line_feed {k : Int} {f t : ByteArray} {n : Int} (h : rightE k f t n = true) : ∀ c ∈ toL (lineB k f t n), c ≠ 10 := by
  intro c hc e
  subst e
  have ho := right_okay h
  rw [line_toL h] at hc
  unfold partsE at hc
  have hr := h
  unfold rightE pathE at hr
  simp only [Bool.and_eq_true] at hr
  obtain ⟨_, ⟨_, hf2⟩, ⟨_, ht2⟩, _⟩ := hr
  rcases join_mem _ _ hc with h1 | ⟨y, hy, h1⟩
  · cases h1
  · simp only [List.mem_cons, List.mem_append] at hy
    rcases hy with rfl | (hy | hy) | hy
    · exact word_feed _ _ h1 rfl
    · split at hy
      · simp at hy; subst hy; exact right_not hf2 (by decide) (by decide) _ h1 rfl
      · cases hy
    · split at hy
      · simp at hy; subst hy; exact right_not ht2 (by decide) (by decide) _ h1 rfl
      · cases hy
    · split at hy
      · simp at hy; subst hy
        have n0 := ho.n0
        have n1 := ho.n1
        simp only at n0 n1 h1
        obtain ⟨m, rfl⟩ : ∃ m : Nat, n = m := ⟨n.toNat, by omega⟩
        exact digits_feed m (by omega) _ h1 rfl
      · cases hy
/-- A line stands for a right edit alone. -/
theorem line_right (e : Et) : (!(lineT e).toList.isEmpty) = rightE e.k e.f e.t e.n := by
  cases hr : rightE e.k e.f e.t e.n with
  | true =>
    cases he : (lineT e).toList.isEmpty with
    | false => rfl
    | true => exact absurd ((toL_empty_iff _).1 he) (line_ne hr)
  | false =>
    have : lineT e = ⟨#[]⟩ := by unfold lineT lineB; rw [hr]; rfl
    rw [this, Lib.toList_data]; rfl
theorem all_right (l : List Et) : allT l = l.all fun e => rightE e.k e.f e.t e.n := by
  unfold allT
  congr 1
  funext e
  exact line_right e
theorem lines_cat : ∀ (l : List Et), allT l = true → linesL (catT l) = l.map fun e => toL (lineT e) ++ [10]
  | [], _ => rfl
  | e :: l, h => by
    rw [all_right, List.all_cons, Bool.and_eq_true] at h
    have ih := lines_cat l (by rw [all_right]; exact h.2)
    have e1 : catT (e :: l) = toL (lineT e) ++ 10 :: catT l := by simp [catT]
    rw [e1, lines_cut (toL (lineT e)) _ (line_feed h.1), ih]; rfl
theorem texts_back : ∀ (l : List Et) (k : Nat), allT l = true → badAt k (l.map fun e => toL (lineT e) ++ [10]) = 0 ∧ (l.map fun e => toL (lineT e) ++ [10]).map edOf = l
  | [], _, _ => ⟨rfl, rfl⟩
  | e :: l, k, h => by
    rw [all_right, List.all_cons, Bool.and_eq_true] at h
    obtain ⟨h1, h2⟩ := texts_back l (k + 1) (by rw [all_right]; exact h.2)
    obtain ⟨o1, o2⟩ := ok_of h.1
    obtain ⟨c1, c2⟩ := ok_cut (lineT e)
    refine ⟨?_, ?_⟩
    · rw [List.map_cons, bad_ok (by rw [c1]; exact o1)]; exact h1
    · rw [List.map_cons, List.map_cons, c2, h2]
      congr 1
theorem line_small (k : Int) (f t : ByteArray) (n : Int) (hf : (f.size : Int) ≤ 200) (ht : (t.size : Int) ≤ 200) : (lineB k f t n).size ≤ 420 := by
  cases hr : rightE k f t n with
  | false => unfold lineB; rw [hr]; exact Nat.zero_le _
  | true =>
    have e : (lineB k f t n).size = (Lib.join ((partsB k f t n).map toL) [32]).length := by
      unfold lineB; rw [if_pos hr]; show (Lib.join ((partsB k f t n).map toL) [32]).toArray.size = _; simp
    rw [e]
    have hw := word_size k
    have ho := right_okay hr
    have hi := (itoa_back ho.n0 ho.n1).2.2
    have e0 : (toL (wordB k)).length = (wordB k).size := by simp [toL]
    have e2 : toL (numB n) = Lib.itoa n := by unfold toL numB; simp
    have e3 : (toL f).length = f.size := by simp [toL]
    have e4 : (toL t).length = t.size := by simp [toL]
    simp only at hi
    unfold partsB
    generalize Lib.itoa n = I at hi e2
    cases hasX k 1 <;> cases hasX k 2 <;> cases hasX k 4 <;> simp [parts_two, parts_three, parts_four, Lib.join_one, e0, e2, e3, e4] <;> omega
theorem cat_size : ∀ (l : List Et), Short l → (catT l).length ≤ 421 * l.length
  | [], _ => Nat.le_refl _
  | e :: l, h => by
    have ih := cat_size l (fun k x hx => h (k + 1) x (by simpa using hx))
    obtain ⟨h1, h2⟩ := h 0 e rfl
    have h3 := line_small e.k e.f e.t e.n h1 h2
    have e1 : catT (e :: l) = toL (lineT e) ++ 10 :: catT l := by simp [catT]
    have e2 : (toL (lineT e)).length = (lineT e).size := by simp [toL]
    have h4 : (lineT e).size ≤ 420 := h3
    rw [e1]
    simp only [List.length_append, List.length_cons, e2]
    omega
end Go.Proofs.YtlohoamhgioheaaDoor
/-
  The law EditTexts, walked.
-/
namespace Go.Proofs.YtlohoamhgioheaaDoor
open Go.RowKit
set_option maxRecDepth 100000

theorem edParse_any (s : ByteArray) (w : World) (hs : (s.size : Int) ≤ 100000) (hTb : Tabs w) (hEr : Errs w) : Calls Tryd.prog 17 #[.string s] w (EdParseTo s w) :=
  callsIn_wide.1 (edParse_in s w hs hTb hEr)
theorem all_take (l : List Et) (i : Nat) (e : Et) (h : l[i]? = some e) : allT (l.take (i + 1)) = (allT (l.take i) && rightE e.k e.f e.t e.n) := by
  obtain ⟨hlt, rfl⟩ := List.getElem?_eq_some_iff.1 h
  rw [List.take_succ_eq_append_getElem hlt]
  unfold allT
  rw [List.all_append, ← line_right]
  simp
/-- A text of lines. -/
theorem cat_drop (l : List Et) (i : Nat) : (catT (l.take i)).length ≤ (catT l).length := by
  conv => rhs; rw [← List.take_append_drop i l]
  unfold catT
  rw [List.flatMap_append, List.length_append]
  omega
set_option maxHeartbeats 16000000 in
theorem edTexts_law (A : Option Addr) (l : List Et) (c : Nat) (s : ByteArray) (w : World) (hT : Tabs w) (hE : Errs w) (hA : RdE w w.heap.size A l) :
    Calls Tryd.prog 4 #[.slice A l.length c, .string s] w fun e w' => e = .returned (.bool true) ∧ Below w.heap.size w w' := by
  have HT := hide hT
  have HEr := hide hE
  have HF := hide (few_any A l c w hA)
  have HAw := hide (fun W (hb : Below w.heap.size w W) => edAwake_any W (hT.below hb))
  have HA := hide hA
  clear hT hE
  cases hf : fewL l with
  | false =>
    rw [hf] at HF
    clear hf hA
    go_enter Tryd.func4, Tryd.ntmps4
    go_wp2_with fail
    refine (HF.out).mono ?_
    rintro e w1 ⟨rfl, hb1⟩
    have HB1 := hide hb1
    clear hb1
    go_wp2_with fail
    refine (HAw.out _ HB1.out).mono ?_
    rintro e w2 ⟨rfl, hb2⟩
    have HB2 := hide (HB1.out.trans (hb2.mono HB1.out.size))
    clear hb2
    go_wp2_with fail
    exact bodyPost_ret (results_tmp rfl _ _ _) rfl ⟨rfl, HB2.out⟩
  | true =>
    obtain ⟨hl20, hsh⟩ := few_at hf
    have hsh2 : Short l := fun k e he => by have := hsh k e he; omega
    rw [hf] at HF
    clear hf hA hsh
    by_cases hz : (s.size : Int) > 1000
    · clear hsh2
      go_enter Tryd.func4, Tryd.ntmps4
      go_wp2_with fail
      refine (HF.out).mono ?_
      rintro e w1 ⟨rfl, hb1⟩
      have HB1 := hide hb1
      clear hb1
      go_wp2_with fail
      refine (HAw.out _ HB1.out).mono ?_
      rintro e w2 ⟨rfl, hb2⟩
      have HB2 := hide (HB1.out.trans (hb2.mono HB1.out.size))
      clear hb2
      go_wp2_with fail
      exact bodyPost_ret (results_tmp rfl _ _ _) rfl ⟨rfl, HB2.out⟩
    · have HSh := hide hsh2
      have HCz := hide (cat_size l hsh2)
      have HTx := hide (fun W (hb : Below w.heap.size w W) => text_any A l c W (HT.out.below hb) (HA.out.step hb) HSh.out (by omega))
      clear hsh2
      go_enter Tryd.func4, Tryd.ntmps4
      go_wp2_with fail
      refine (HF.out).mono ?_
      rintro e w1 ⟨rfl, hb1⟩
      have HB1 := hide hb1
      clear hb1
      go_wp2_with fail
      go_loopg [5, 6, 7] l.length (fun gk xv bv iv wr => ∃ (i : Nat) (x : ByteArray), xv = .string x ∧ bv = .bool (allT (l.take i)) ∧ iv = .int .i64 i ∧ i + gk = l.length ∧ Hid (toL x = catT (l.take i)) ∧ Hid (Below w.heap.size w wr))
      case atStart => exact ⟨0, ⟨#[]⟩, rfl, rfl, rfl, by omega, hide rfl, HB1⟩
      case round =>
        obtain ⟨i, x, rfl, rfl, rfl, hig, HX, HB⟩ := hrel
        cases gk with
        | zero =>
          obtain rfl : i = l.length := by omega
          rw [List.take_length]
          have HXl := hide (show toL x = catT l by rw [HX.out, List.take_length])
          have HVl := hide (show textV l = if allT l then catT l else [] from rfl)
          have HBk := hide (fun h => texts_back l 0 h)
          have HLc := hide (fun h => lines_cat l h)
          obtain ⟨b, hb⟩ : ∃ b, b = allT l := ⟨_, rfl⟩
          rw [← hb] at HVl HBk HLc ⊢
          clear hb
          cases b with
          | true =>
            have HLc2 := hide (HLc.out rfl)
            have HBk2 := hide (HBk.out rfl)
            have HVl2 := hide (show textV l = catT l from HVl.out)
            clear HLc HBk HVl
            go_wp2_with fail
            refine (HTx.out _ HB.out).mono ?_
            rintro e w2 ⟨⟨g, rfl, hg⟩, hb2⟩
            have HB2 := hide (HB.out.trans (hb2.mono HB.out.size))
            rw [HVl2.out] at hg
            have hgx : g = x := bytes_ext (by rw [hg, HXl.out])
            subst hgx
            have hgz : (g.size : Int) ≤ 100000 := by
              have h1 : (toL g).length = g.size := by simp [toL]
              rw [HXl.out] at h1
              have h2 := HCz.out
              omega
            have HP := hide (edParse_any g w2 hgz (HT.out.below HB2.out) (HEr.out.below HB2.out))
            unfold EdParseTo at HP
            rw [HXl.out, HLc2.out, HBk2.out.1, HBk2.out.2] at HP
            clear hb2 hg hgz
            go_wp2_with fail
            refine (HP.out).mono ?_
            rintro e w3 ⟨hb3, hcase⟩
            have HB3 := hide (HB2.out.trans (hb3.mono HB2.out.size))
            rcases hcase with ⟨h0, _⟩ | ⟨_, A1, es1, c1, rfl, hes1, hR1⟩
            · exact absurd rfl h0
            · subst hes1
              have HSm0 := hide (edSame_any A1 A es1 c1 c w3 hR1 (HA.out.step HB3.out) (by omega))
              clear hb3 hR1
              go_wp2_with fail
              refine (HSm0.out).mono ?_
              rintro e w4 ⟨rfl, hb4⟩
              have HB4 := hide (HB3.out.trans (hb4.mono HB3.out.size))
              clear hb4
              go_wp2_with fail
              have HSz := hide (show (s.size : Int) ≤ 100000 by omega)
              refine (edParse_any s w4 HSz.out (HT.out.below HB4.out) (HEr.out.below HB4.out)).mono ?_
              rintro e wp ⟨hbp, hcase⟩
              have HBp := hide (HB4.out.trans (hbp.mono HB4.out.size))
              clear hbp
              obtain ⟨N, hN⟩ : ∃ N, N = badAt 0 (linesL (toL s)) := ⟨_, rfl⟩
              obtain ⟨M, hM⟩ : ∃ M, M = (linesL (toL s)).map edOf := ⟨_, rfl⟩
              rw [← hN, ← hM] at hcase
              have HRP := hide (refEParse_any s wp HSz.out)
              unfold RefParseTo at HRP
              rw [← hN, ← hM] at HRP
              have HMz := hide (show (M.length : Int) ≤ 1000000 by
                have h1 := (lines_in _ (toL s) (Nat.le_refl _)).1
                rw [hM, List.length_map]
                have h2 : (toL s).length = s.size := by simp [toL]
                have := HSz.out
                omega)
              clear hN hM
              rcases hcase with ⟨hN0, rfl⟩ | ⟨hN0, A2, es, c2, rfl, hes, hR2⟩
              · have HN0 := hide hN0
                clear hN0
                go_wp2_with fail
                refine (HRP.out).mono ?_
                rintro e wq ⟨hbq, hcase2⟩
                have HBq := hide (HBp.out.trans (hbq.mono HBp.out.size))
                clear hbq
                rcases hcase2 with ⟨_, rfl⟩ | ⟨h0, _⟩
                · go_wp2_with fail
                  refine (HAw.out _ HBq.out).mono ?_
                  rintro e wr2 ⟨rfl, hbr⟩
                  have HBr := hide (HBq.out.trans (hbr.mono HBq.out.size))
                  clear hbr
                  have HSm := hide (edSame_any none none [] 0 0 wr2 (RdE.nil _ _ _) (RdE.nil _ _ _) (by decide))
                  have HSm2 := hide (show Calls Tryd.prog 18 #[.slice none 0 0, .slice none 0 0] wr2 fun e w' => e = .returned (.bool true) ∧ Below wr2.heap.size wr2 w' from HSm.out)
                  go_wp2_with fail
                  refine (HSm2.out).mono ?_
                  rintro e ws ⟨rfl, hbs⟩
                  have HBs := hide (HBr.out.trans (hbs.mono HBr.out.size))
                  clear hbs
                  have z0 : ((N : Int) == 0) = false := by rw [beq_eq_false_iff_ne]; have := HN0.out; omega
                  go_wp2_with fail
                  exact bodyPost_ret (results_tmp rfl _ _ _) rfl ⟨by simp, HBs.out⟩
                · exact absurd h0 HN0.out
              · have HR2 := hide hR2
                subst hN0
                subst hes
                clear hR2
                go_wp2_with fail
                refine (HRP.out).mono ?_
                rintro e wq ⟨hbq, hcase2⟩
                have HBq := hide (HBp.out.trans (hbq.mono HBp.out.size))
                have HRq := hide (HR2.out.step hbq)
                clear hbq
                rcases hcase2 with ⟨h0, _⟩ | ⟨_, A3, es3, c3, rfl, hes3, hR3⟩
                · exact absurd rfl h0
                · subst hes3
                  have HR3 := hide hR3
                  clear hR3
                  go_wp2_with fail
                  refine (HAw.out _ HBq.out).mono ?_
                  rintro e wr2 ⟨rfl, hbr⟩
                  have HBr := hide (HBq.out.trans (hbr.mono HBq.out.size))
                  have HSm := hide (edSame_any A2 A3 es3 c2 c3 wr2 (HRq.out.step hbr) (HR3.out.step hbr) HMz.out)
                  clear hbr
                  go_wp2_with fail
                  refine (HSm.out).mono ?_
                  rintro e ws ⟨rfl, hbs⟩
                  have HBs := hide (HBr.out.trans (hbs.mono HBr.out.size))
                  clear hbs
                  go_wp2_with fail
                  exact bodyPost_ret (results_tmp rfl _ _ _) rfl ⟨rfl, HBs.out⟩
          | false =>
            have HVl2 := hide (show textV l = [] from HVl.out)
            clear HLc HBk HVl
            go_wp2_with fail
            refine (HTx.out _ HB.out).mono ?_
            rintro e w2 ⟨⟨g, rfl, hg⟩, hb2⟩
            have HB2 := hide (HB.out.trans (hb2.mono HB.out.size))
            rw [HVl2.out] at hg
            have hgx : g = ⟨#[]⟩ := bytes_ext (by rw [hg]; rfl)
            subst hgx
            have HP := hide (edParse_any ⟨#[]⟩ w2 (by decide) (HT.out.below HB2.out) (HEr.out.below HB2.out))
            unfold EdParseTo at HP
            rw [show linesL (toL (⟨#[]⟩ : ByteArray)) = [] from rfl] at HP
            clear hb2 hg
            go_wp2_with fail
            refine (HP.out).mono ?_
            rintro e w3 ⟨hb3, hcase⟩
            have HB3 := hide (HB2.out.trans (hb3.mono HB2.out.size))
            clear hb3
            rcases hcase with ⟨h0, _⟩ | ⟨_, A1, es1, c1, rfl, hes1, hR1⟩
            · exact absurd rfl h0
            · clear hes1 hR1
              go_wp2_with fail
              have HSz := hide (show (s.size : Int) ≤ 100000 by omega)
              refine (edParse_any s w3 HSz.out (HT.out.below HB3.out) (HEr.out.below HB3.out)).mono ?_
              rintro e wp ⟨hbp, hcase⟩
              have HBp := hide (HB3.out.trans (hbp.mono HB3.out.size))
              clear hbp
              obtain ⟨N, hN⟩ : ∃ N, N = badAt 0 (linesL (toL s)) := ⟨_, rfl⟩
              obtain ⟨M, hM⟩ : ∃ M, M = (linesL (toL s)).map edOf := ⟨_, rfl⟩
              rw [← hN, ← hM] at hcase
              have HRP := hide (refEParse_any s wp HSz.out)
              unfold RefParseTo at HRP
              rw [← hN, ← hM] at HRP
              have HMz := hide (show (M.length : Int) ≤ 1000000 by
                have h1 := (lines_in _ (toL s) (Nat.le_refl _)).1
                rw [hM, List.length_map]
                have h2 : (toL s).length = s.size := by simp [toL]
                have := HSz.out
                omega)
              clear hN hM
              rcases hcase with ⟨hN0, rfl⟩ | ⟨hN0, A2, es, c2, rfl, hes, hR2⟩
              · have HN0 := hide hN0
                clear hN0
                go_wp2_with fail
                refine (HRP.out).mono ?_
                rintro e wq ⟨hbq, hcase2⟩
                have HBq := hide (HBp.out.trans (hbq.mono HBp.out.size))
                clear hbq
                rcases hcase2 with ⟨_, rfl⟩ | ⟨h0, _⟩
                · go_wp2_with fail
                  refine (HAw.out _ HBq.out).mono ?_
                  rintro e wr2 ⟨rfl, hbr⟩
                  have HBr := hide (HBq.out.trans (hbr.mono HBq.out.size))
                  clear hbr
                  have HSm := hide (edSame_any none none [] 0 0 wr2 (RdE.nil _ _ _) (RdE.nil _ _ _) (by decide))
                  have HSm2 := hide (show Calls Tryd.prog 18 #[.slice none 0 0, .slice none 0 0] wr2 fun e w' => e = .returned (.bool true) ∧ Below wr2.heap.size wr2 w' from HSm.out)
                  go_wp2_with fail
                  refine (HSm2.out).mono ?_
                  rintro e ws ⟨rfl, hbs⟩
                  have HBs := hide (HBr.out.trans (hbs.mono HBr.out.size))
                  clear hbs
                  have z0 : ((N : Int) == 0) = false := by rw [beq_eq_false_iff_ne]; have := HN0.out; omega
                  go_wp2_with fail
                  exact bodyPost_ret (results_tmp rfl _ _ _) rfl ⟨by simp, HBs.out⟩
                · exact absurd h0 HN0.out
              · have HR2 := hide hR2
                subst hN0
                subst hes
                clear hR2
                go_wp2_with fail
                refine (HRP.out).mono ?_
                rintro e wq ⟨hbq, hcase2⟩
                have HBq := hide (HBp.out.trans (hbq.mono HBp.out.size))
                have HRq := hide (HR2.out.step hbq)
                clear hbq
                rcases hcase2 with ⟨h0, _⟩ | ⟨_, A3, es3, c3, rfl, hes3, hR3⟩
                · exact absurd rfl h0
                · subst hes3
                  have HR3 := hide hR3
                  clear hR3
                  go_wp2_with fail
                  refine (HAw.out _ HBq.out).mono ?_
                  rintro e wr2 ⟨rfl, hbr⟩
                  have HBr := hide (HBq.out.trans (hbr.mono HBq.out.size))
                  have HSm := hide (edSame_any A2 A3 es3 c2 c3 wr2 (HRq.out.step hbr) (HR3.out.step hbr) HMz.out)
                  clear hbr
                  go_wp2_with fail
                  refine (HSm.out).mono ?_
                  rintro e ws ⟨rfl, hbs⟩
                  have HBs := hide (HBr.out.trans (hbs.mono HBr.out.size))
                  clear hbs
                  go_wp2_with fail
                  exact bodyPost_ret (results_tmp rfl _ _ _) rfl ⟨rfl, HBs.out⟩
        | succ g0 =>
          have hii : (i : Int) < l.length := by omega
          obtain ⟨e, he⟩ : ∃ e, l[i]? = some e := ⟨_, List.getElem?_eq_getElem (by omega)⟩
          have hR := HA.out.step HB.out
          obtain ⟨ad, rfl, hlt, hnd⟩ := hR i e he
          obtain ⟨h1, h2⟩ := HSh.out i e he
          have HCt := hide (cat_take l i e he)
          have hat := all_take l i e he
          have HRt := hide (fun W => refERight_any e.k e.f e.t e.n W (by omega) (by omega))
          have HLn := hide (fun W => refELine_any e.k e.f e.t e.n W (by omega) (by omega))
          have hls := line_small e.k e.f e.t e.n h1 h2
          have hxs : x.size ≤ 8420 := by
            have h3 : (toL x).length = x.size := by simp [toL]
            rw [HX.out] at h3
            have h4 := cat_drop l i
            have h5 := HCz.out
            omega
          obtain ⟨k, f, t, n⟩ := e
          obtain ⟨LB, hLB⟩ : ∃ LB, LB = lineB k f t n := ⟨_, rfl⟩
          obtain ⟨RB, hRB⟩ : ∃ RB, RB = rightE k f t n := ⟨_, rfl⟩
          have hlt2 : lineT ⟨k, f, t, n⟩ = LB := hLB.symm
          simp only at HRt HLn hls hat
          rw [hlt2] at HCt
          rw [← hLB] at HLn hls
          rw [← hRB] at HRt hat
          have HAt := hide hat
          obtain ⟨B0, hB0⟩ : ∃ B0, B0 = allT (l.take i) := ⟨_, rfl⟩
          rw [← hB0] at HAt ⊢
          have c0 := hnd.k
          have c1 := hnd.f
          have c2 := hnd.t
          have c3 := hnd.n
          have hlt3 : ad.block < wr.heap.size := hlt
          have HNd := hide hnd
          simp only at c0 c1 c2 c3
          clear hR hnd he hat hLB hRB hlt2 hB0
          cases B0 with
          | false =>
            go_wp2_with fail
            refine (HLn.out wr).mono ?_
            rintro e w2 ⟨rfl, hb2⟩
            have HB2 := hide (HB.out.trans (hb2.mono HB.out.size))
            clear hb2 c0 c1 c2 c3
            go_wp2_with fail
            go_roundg g0
            case rel => exact ⟨i + 1, (x ++ LB) ++ ⟨#[10]⟩, rfl, by rw [HAt.out]; rfl, rfl, by omega, hide (by rw [HCt.out, toL_app, toL_app, HX.out]; simp [toL]), HB2⟩
            case measure => omega
          | true =>
            go_wp2_with fail
            refine (HRt.out wr).mono ?_
            rintro e w2 ⟨rfl, hb2⟩
            have HB2 := hide (HB.out.trans (hb2.mono HB.out.size))
            have hnd2 := HNd.out.below hb2 (by rw [add_block]; exact hlt3)
            have c0 := hnd2.k
            have c1 := hnd2.f
            have c2 := hnd2.t
            have c3 := hnd2.n
            simp only at c0 c1 c2 c3
            clear hb2 hnd2
            go_wp2_with fail
            refine (HLn.out w2).mono ?_
            rintro e w3 ⟨rfl, hb3⟩
            have HB3 := hide (HB2.out.trans (hb3.mono HB2.out.size))
            clear hb3 c0 c1 c2 c3
            go_wp2_with fail
            go_roundg g0
            case rel => exact ⟨i + 1, (x ++ LB) ++ ⟨#[10]⟩, rfl, by rw [HAt.out]; rfl, rfl, by omega, hide (by rw [HCt.out, toL_app, toL_app, HX.out]; simp [toL]), HB3⟩
            case measure => omega
end Go.Proofs.YtlohoamhgioheaaDoor
