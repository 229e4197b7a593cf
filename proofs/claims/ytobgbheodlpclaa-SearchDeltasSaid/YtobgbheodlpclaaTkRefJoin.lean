/-
  Tokens put together: the reference's Join.
-/
import Derived.Test.YtobgbheodlpclaaAutoTkJoinAll
import Derived.Laws.OwnMore
namespace Go.Proofs.Ytobgbheodlpclaa
open Go.RowKit
set_option maxRecDepth 100000

/-- Two tokens that are put into one. -/
def mergeT (a t : Tk) : Option Tk :=
  if a.many = 0 then (if t.many = 0 ∧ a.data.size + t.data.size ≤ 16384 then some ⟨0, 0, a.data ++ t.data⟩ else none)
  else if t.many ≠ 0 ∧ a.from_ + a.many = t.from_ then some ⟨a.from_, a.many + t.many, ⟨#[]⟩⟩ else none
/-- A token behind others. -/
def stepO (o : List Tk) (t : Tk) : List Tk :=
  match o.getLast? with
  | none => o ++ [t]
  | some a => match mergeT a t with
    | some c => o.set (o.length - 1) c
    | none => o ++ [t]
def joinR (l : List Tk) : List Tk := (rightL l).foldl stepO []
theorem stepO_len (o : List Tk) (t : Tk) : (stepO o t).length ≤ o.length + 1 := by
  unfold stepO
  split
  · simp
  · split
    · simp
    · simp
theorem merge_right {a t c : Tk} (ha : rightT a = true) (ht : rightT t = true) (h : mergeT a t = some c) : rightT c = true := by
  have h1 := right_cases ha
  have h2 := right_cases ht
  unfold mergeT at h
  split at h
  · rename_i h0
    split at h
    · rename_i h3
      have hs : (a.data ++ t.data).size = a.data.size + t.data.size := ByteArray.size_append
      injection h with h
      subst h
      unfold rightT
      rw [if_pos rfl]
      simp only [Bool.and_eq_true, decide_eq_true_eq]
      refine ⟨⟨trivial, ?_⟩, ?_⟩
      · show (1 : Int) ≤ (a.data ++ t.data).size
        omega
      · show ((a.data ++ t.data).size : Int) ≤ 16384
        omega
    · cases h
  · rename_i h0
    split at h
    · rename_i h3
      injection h with h
      subst h
      unfold rightT
      rw [if_neg (by show ¬ a.many + t.many = 0; omega)]
      simp only [Bool.and_eq_true, decide_eq_true_eq]
      refine ⟨⟨⟨?_, ?_⟩, ?_⟩, rfl⟩ <;> omega
    · cases h
theorem stepO_right {o : List Tk} {t : Tk} (ho : ∀ x ∈ o, rightT x = true) (ht : rightT t = true) : ∀ x ∈ stepO o t, rightT x = true := by
  unfold stepO
  have hp : ∀ x ∈ o ++ [t], rightT x = true := fun x hx => by
    rcases List.mem_append.1 hx with h | h
    · exact ho x h
    · rw [List.mem_singleton.1 h]; exact ht
  split
  · exact hp
  · rename_i a ha
    split
    · rename_i c hc
      intro x hx
      rcases List.mem_or_eq_of_mem_set hx with h | rfl
      · exact ho x h
      · exact merge_right (ho a (List.mem_of_getLast? ha)) ht hc
    · exact hp
theorem cellsT_set : ∀ (l : List Tk) (j : Nat) (t : Tk), j < l.length → (((cellsT l).set (j * 3) (.int .i64 t.from_)).set (j * 3 + 1) (.int .i64 t.many)).set (j * 3 + 2) (.string t.data) = cellsT (l.set j t)
  | [], j, t, h => by simp at h
  | u :: l, 0, t, h => rfl
  | u :: l, j + 1, t, h => by
    have ih := cellsT_set l j t (by simpa using h)
    show (((u.cells.toList ++ cellsT l).set ((j + 1) * 3) _).set ((j + 1) * 3 + 1) _).set ((j + 1) * 3 + 2) _ = u.cells.toList ++ cellsT (l.set j t)
    have hu : u.cells.toList.length = 3 := rfl
    rw [List.set_append_right _ _ (by omega), List.set_append_right _ _ (by omega), List.set_append_right _ _ (by omega), hu, ← ih]
    congr 2
    · congr 2 <;> omega
    · omega
/-- A token is stored into the last one's place. -/
theorem TI.store {w W : World} {e : TypeId} {b m g j : Nat} {l : List Tk} (h : TI w e (.slice (some ⟨b, 0, none⟩) m g) l W) (hm : l.length = m) (hj : j < m) (t : Tk) :
    TI w e (.slice (some ⟨b, 0, none⟩) m g) (l.set j t) (((W.setCell ⟨b, j * 3, none⟩ (.int .i64 t.from_)).setCell ⟨b, j * 3 + 1, none⟩ (.int .i64 t.many)).setCell ⟨b, j * 3 + 2, none⟩ (.string t.data)) ∧
    (W.frozen? ⟨b, j * 3, none⟩ = false ∧ W.frozen? ⟨b, j * 3 + 1, none⟩ = false ∧ W.frozen? ⟨b, j * 3 + 2, none⟩ = false) := by
  subst hm
  have ho := h.own
  have hb : w.heap.size ≤ b := (ho.lt b rfl).1
  have s1 := ho.stored (j * 3) (.int .i64 t.from_)
  have s2 := s1.1.stored (j * 3 + 1) (.int .i64 t.many)
  have s3 := s2.1.stored (j * 3 + 2) (.string t.data)
  refine ⟨⟨((h.below.grown s1.2 h.below.size (fun k hk => by cases hk; exact hb)).grown s2.2 (h.below.grown s1.2 h.below.size (fun k hk => by cases hk; exact hb)).size (fun k hk => by cases hk; exact hb)).grown s3.2 ((h.below.grown s1.2 h.below.size (fun k hk => by cases hk; exact hb)).grown s2.2 (h.below.grown s1.2 h.below.size (fun k hk => by cases hk; exact hb)).size (fun k hk => by cases hk; exact hb)).size (fun k hk => by cases hk; exact hb), ?_⟩, ⟨ho.frozenAt _, ho.frozenAt _, ho.frozenAt _⟩⟩
  rw [List.length_set, ← cellsT_set l j t hj]
  exact s3.1
theorem own_zero {w : World} {base e size m c : Nat} {B : Option Addr} {xs : List Value} (h : w.ownsRow base e size (.slice B m c) m xs) (h0 : m ≠ 0) : ∃ b, B = some ⟨b, 0, none⟩ := by
  rcases h.2 with ⟨_, hz⟩ | ⟨g, cap, cur, hv, _⟩
  · exact absurd hz h0
  · injection hv with e1
    exact ⟨g, e1⟩

theorem joinR_drop (o l : List Tk) (i : Nat) (t : Tk) (h : l[i]? = some t) : (rightL (l.drop i)).foldl stepO o = if rightT t = true then (rightL (l.drop (i + 1))).foldl stepO (stepO o t) else (rightL (l.drop (i + 1))).foldl stepO o := by
  rw [rightL_drop l i t h]
  split <;> rfl

set_option maxHeartbeats 32000000 in
theorem refJoin_any (A : Option Addr) (l : List Tk) (c : Nat) (w : World) (hA : RdT w w.heap.size A l) (hl : (l.length : Int) ≤ 1000) (hs : ∀ t ∈ l, t.data.size ≤ 1000000) :
    Calls Try.prog 50 #[.slice A l.length c] w fun e w' => ∃ v, e = .returned v ∧ TI w 69 v (joinR l) w' := by
  obtain ⟨i0, hi, hz0, hz1, hz2⟩ := info_parts info_rtk
  unfold joinR
  obtain ⟨V, hV⟩ : ∃ V, V = (rightL l).foldl stepO [] := ⟨_, rfl⟩
  have HV := hide (show (rightL (l.drop 0)).foldl stepO [] = V by rw [hV]; rfl)
  rw [← hV]
  have HA := hide hA
  have HS := hide hs
  clear hA hV hs
  go_enter Try.func50, Try.ntmps50
  go_wp2_with fail
  go_loopg [3, 4] l.length (fun gk ov iv wr => ∃ (i : Nat) (B : Option Addr) (d : Nat) (o : List Tk), ov = .slice B o.length d ∧ iv = .int .i64 i ∧ i + gk = l.length ∧ o.length ≤ i ∧ Hid (∀ x ∈ o, rightT x = true) ∧ Hid (TI w 69 (.slice B o.length d) o wr) ∧ Hid ((rightL (l.drop i)).foldl stepO o = V))
  case atStart => exact ⟨0, none, 0, [], rfl, rfl, by omega, by simp, hide (by simp), hide ⟨Below.refl _ _, World.ownsRow_nil _ _ _ _⟩, HV⟩
  case round =>
    obtain ⟨i, B, d, o, rfl, rfl, hig, hoi, HOr, HO, HQ⟩ := hrel
    clear HV
    cases gk with
    | zero =>
      obtain rfl : i = l.length := by omega
      have HE := hide (show V = o by rw [← HQ.out, List.drop_length]; rfl)
      clear HQ
      go_wp2_with fail
      exact bodyPost_ret (results_tmp rfl _ _ _) rfl ⟨.slice B o.length d, rfl, by rw [HE.out]; exact HO.out⟩
    | succ g0 =>
      have hii : (i : Int) < l.length := by omega
      have hi0 : (0 : Int) ≤ (i : Int) := by omega
      obtain ⟨t, ht⟩ : ∃ t, l[i]? = some t := ⟨_, List.getElem?_eq_getElem (by omega)⟩
      obtain ⟨ad, rfl, hlt, hnd⟩ := (HA.out.below HO.out.below (Nat.le_refl _)) i t ht
      have hd := HQ.out
      rw [joinR_drop o l i t ht] at hd
      have hiw : IntKind.i64.wrap ((i : Int) + 1) = ((i + 1 : Nat) : Int) := by rw [IntWalk.i64_in _ (by omega)]; rfl
      have hsz := HS.out t (List.mem_of_getElem? ht)
      obtain ⟨c0, c1, c2⟩ := hnd
      have HR := hide (refTRight_any t)
      have hsl := stepO_len o t
      have hrow := World.alloc_heap_new wr (Obj.cells t.cells 69)
      have hI4 := HO.out.step ((Below.refl wr.heap.size wr).alloc (Nat.le_refl _) (.cells t.cells 69))
      cases hr : rightT t with
      | false =>
        rw [hr] at hd HR
        rw [if_neg (by decide)] at hd
        have HD := hide hd
        have HI4 := hide hI4
        obtain ⟨fr, many, data⟩ := t
        simp only [Tk.cells] at c0 c1 c2 HI4 HR
        clear hd ht hr hrow hI4 hsl HQ HO
        go_wp2_with fail
        refine (HR.out _).mono ?_
        rintro e w3 ⟨rfl, hb3⟩
        have HI5 := hide (HI4.out.step hb3)
        clear HI4 hb3
        go_wp2_with fail
        go_roundg g0
        case rel => exact ⟨i + 1, B, d, o, rfl, rfl, by omega, by omega, HOr, HI5, HD⟩
        case measure => omega
      | true =>
        rw [hr] at HR hd
        rw [if_pos rfl] at hd
        have HOr2 := hide (stepO_right HOr.out hr)
        have hrt := right_cases hr
        have HI4 := hide hI4
        clear hr hI4 HQ HO
        have hst : stepO o t = match o.getLast? with
          | none => o ++ [t]
          | some a => match mergeT a t with
            | some c => o.set (o.length - 1) c
            | none => o ++ [t] := rfl
        generalize stepO o t = so at hd hsl HOr2 hst
        have HD := hide hd
        obtain ⟨fr, many, data⟩ := t
        simp only [Tk.cells] at c0 c1 c2 HI4 HR hrow
        simp only at hrt hsz
        clear hd ht
        by_cases ho0 : o.length = 0
        · obtain rfl : o = [] := List.eq_nil_of_length_eq_zero ho0
          have hso : so = [⟨fr, many, data⟩] := hst
          clear hst
          subst hso
          go_wp2_with fail
          refine (HR.out _).mono ?_
          rintro e w3 ⟨rfl, hb3⟩
          have s3 := (hb3.block wr.heap.size (by simp)).trans hrow
          have k0 : w3.cell? ⟨wr.heap.size, 0, none⟩ = some (.int .i64 fr) := cell_of_row _ _ _ _ _ _ s3
          have k1 : w3.cell? ⟨wr.heap.size, 1, none⟩ = some (.int .i64 many) := cell_of_row _ _ _ _ _ _ s3
          have k2 : w3.cell? ⟨wr.heap.size, 2, none⟩ = some (.string data) := cell_of_row _ _ _ _ _ _ s3
          have hI5 := HI4.out.step hb3
          have hO6 := hI5.own.alloc (.cells (Tk.cells ⟨fr, many, data⟩) 69)
          have hRn := RdT.one w3 ⟨fr, many, data⟩ 69
          have hB6 := hI5.below.alloc hI5.below.size (.cells (Tk.cells ⟨fr, many, data⟩) 69)
          have hsz6 := hB6.size
          clear HI4 hrow hb3 s3 hI5 c0 c1 c2 hrt
          go_wp2_with (at_builtin; go_loud (refine wpList_append_toks rfl _ _ 63 rfl w.heap.size 69 i0 Try.underlying63 hi hz0 hz1 hz2 _ _ _ rfl hO6 (some ⟨w3.heap.size, 0, none⟩) _ 1 _ [⟨fr, many, data⟩] rfl rfl hRn (by unfold maxLen; omega) (by omega) hsz6 ?_))
          intro v5 w5 hO5 hg5
          have hB5 := hB6.grown hg5 hB6.size (fun r e => (hO6.lt r e).1)
          obtain ⟨D, g, rfl⟩ := ownsRow_slice hO5
          have HI7 := hide (show TI w 69 (.slice D 1 g) [⟨fr, many, data⟩] w5 from ⟨hB5, hO5⟩)
          clear hO6 hRn hB6 hO5 hg5 hB5 hsz6 k0 k1 k2
          go_wp2_with fail
          go_roundg g0
          case rel => exact ⟨i + 1, D, g, [⟨fr, many, data⟩], rfl, rfl, by omega, by simp, HOr2, HI7, HD⟩
          case measure => omega
        · obtain ⟨j, hj⟩ : ∃ j, j = o.length - 1 := ⟨_, rfl⟩
          have hjo : j < o.length := by omega
          obtain ⟨a, ha⟩ : ∃ a, o[j]? = some a := ⟨_, List.getElem?_eq_getElem hjo⟩
          have hga : o.getLast? = some a := by rw [List.getLast?_eq_getElem?, ← hj]; exact ha
          rw [hga, ← hj] at hst
          simp only at hst
          have hra := right_cases (HOr.out a (List.mem_of_getElem? ha))
          obtain ⟨fa, ma, da⟩ := a
          simp only at hra
          obtain ⟨ax, rfl⟩ := own_zero HI4.out.own ho0
          have hadd : (⟨ax, 0, none⟩ : Addr).add (j * 3) = ⟨ax, j * 3, none⟩ := addT_off _ _
          have hx1 : (1 : Int) ≤ o.length := by omega
          have hx2 : (0 : Int) ≤ (o.length : Int) - 1 := by omega
          have hx3 : (o.length : Int) - 1 < o.length := by omega
          have hx4 : ((o.length : Int) - 1).toNat = j := by omega
          have hx5 : IntKind.i64.wrap ((o.length : Int) - 1) = (o.length : Int) - 1 := IntWalk.i64_in _ (by omega)
          have hx6 : 0 < o.length := by omega
          have hx7 : ((o.length : Int) == 0) = false := by rw [beq_eq_false_iff_ne]; omega
          have hx8 : ¬ o = [] := fun e => ho0 (by rw [e]; rfl)
          have q1 : IntKind.i64.wrap ((da.size : Int) + data.size) = (da.size : Int) + data.size := IntWalk.i64_in _ (by omega)
          have q2 : IntKind.i64.wrap (fa + ma) = fa + ma := IntWalk.i64_in _ (by omega)
          have q3 : IntKind.i64.wrap (ma + many) = ma + many := IntWalk.i64_in _ (by omega)
          have q4 : ¬ 9223372036854775807 < da.size + data.size := by omega
          have HAa := hide ha
          have HJj := hide hj
          have hcase : (ma = 0 ∧ many = 0 ∧ (da.size : Int) + data.size ≤ 16384 ∧ so = o.set j ⟨0, 0, da ++ data⟩) ∨ (0 < ma ∧ 0 < many ∧ fa + ma = fr ∧ so = o.set j ⟨fa, ma + many, ⟨#[]⟩⟩) ∨
              (so = o ++ [⟨fr, many, data⟩] ∧ ((ma = 0 ∧ many = 0 ∧ ¬ (da.size : Int) + data.size ≤ 16384) ∨ (ma = 0 ∧ 0 < many) ∨ (0 < ma ∧ many = 0) ∨ (0 < ma ∧ 0 < many ∧ ¬ fa + ma = fr))) := by
            rcases hra with ⟨h1, h2, h3, h4⟩ | ⟨h1, h2, h3, h4⟩ <;> rcases hrt with ⟨g1, g2, g3, g4⟩ | ⟨g1, g2, g3, g4⟩
            · by_cases hq : da.size + data.size ≤ 16384
              · refine .inl ⟨h1, g1, by omega, ?_⟩
                rw [show mergeT ⟨fa, ma, da⟩ ⟨fr, many, data⟩ = some ⟨0, 0, da ++ data⟩ by unfold mergeT; rw [if_pos h1, if_pos ⟨g1, hq⟩]] at hst
                exact hst
              · refine .inr (.inr ⟨?_, .inl ⟨h1, g1, by omega⟩⟩)
                rw [show mergeT ⟨fa, ma, da⟩ ⟨fr, many, data⟩ = none by unfold mergeT; rw [if_pos h1, if_neg (fun h => hq h.2)]] at hst
                exact hst
            · refine .inr (.inr ⟨?_, .inr (.inl ⟨h1, g1⟩)⟩)
              rw [show mergeT ⟨fa, ma, da⟩ ⟨fr, many, data⟩ = none by unfold mergeT; rw [if_pos h1, if_neg (fun h => by have := h.1; simp only at this; omega)]] at hst
              exact hst
            · refine .inr (.inr ⟨?_, .inr (.inr (.inl ⟨h1, g1⟩))⟩)
              rw [show mergeT ⟨fa, ma, da⟩ ⟨fr, many, data⟩ = none by unfold mergeT; rw [if_neg (by show ¬ ma = 0; omega), if_neg (fun h => h.1 g1)]] at hst
              exact hst
            · by_cases hq : fa + ma = fr
              · refine .inr (.inl ⟨h1, g1, hq, ?_⟩)
                rw [show mergeT ⟨fa, ma, da⟩ ⟨fr, many, data⟩ = some ⟨fa, ma + many, ⟨#[]⟩⟩ by unfold mergeT; rw [if_neg (by show ¬ ma = 0; omega), if_pos ⟨by show many ≠ 0; omega, hq⟩]] at hst
                exact hst
              · refine .inr (.inr ⟨?_, .inr (.inr (.inr ⟨h1, g1, hq⟩))⟩)
                rw [show mergeT ⟨fa, ma, da⟩ ⟨fr, many, data⟩ = none by unfold mergeT; rw [if_neg (by show ¬ ma = 0; omega), if_neg (fun h => hq h.2)]] at hst
                exact hst
          clear hst hra hrt hga ha hj
          have hlo := HI4.out
          go_wp2_with fail
          refine (HR.out _).mono ?_
          rintro e w3 ⟨rfl, hb3⟩
          have s3 := (hb3.block wr.heap.size (by simp)).trans hrow
          obtain ⟨n5, hn5⟩ : ∃ n, n = wr.heap.size := ⟨_, rfl⟩
          rw [← hn5] at s3 ⊢
          have hlt5 : n5 < w3.heap.size := (Array.getElem?_eq_some_iff.1 s3).1
          have k0 : w3.cell? ⟨n5, 0, none⟩ = some (.int .i64 fr) := cell_of_row _ _ _ _ _ _ s3
          have k1 : w3.cell? ⟨n5, 1, none⟩ = some (.int .i64 many) := cell_of_row _ _ _ _ _ _ s3
          have k2 : w3.cell? ⟨n5, 2, none⟩ = some (.string data) := cell_of_row _ _ _ _ _ _ s3
          have hI5 := HI4.out.step hb3
          obtain ⟨ax', e', hbx, hta⟩ := (RdT.own hI5.own) j ⟨fa, ma, da⟩ HAa.out
          cases e'
          rw [hadd] at hta
          obtain ⟨x0, x1, x2⟩ := hta
          simp only at x0 x1 x2
          have hI6 := hI5.step ((Below.refl w3.heap.size w3).alloc (Nat.le_refl _) (.cells #[.int .i64 fa, .int .i64 ma, .string da] 69))
          have hbx' : ax < w3.heap.size := hbx
          have HI6 := hide hI6
          have HI5 := hide hI5
          clear HI4 hrow hb3 s3 hI5 c0 c1 c2 hn5 hlo HR hI6 hlt HAa hbx hsl
          rcases hcase with ⟨h1, h2, h3, rfl⟩ | ⟨h1, h2, h3, rfl⟩ | ⟨rfl, hc⟩
          · skip
            subst h1 h2
            have hst5 := HI5.out.store rfl hjo ⟨0, 0, da ++ data⟩
            obtain ⟨z0, z1, z2⟩ := hst5.2
            obtain ⟨y0, y1, y2⟩ := (HI6.out.store rfl hjo ⟨0, 0, da ++ data⟩).2
            have HS6 := hide (hst5.1.step ((Below.refl _ _).alloc (Nat.le_refl _) (.cells #[.int .i64 fa, .int .i64 0, .string da] 69)))

            clear HI6 HI5 hst5
            go_wp2_with fail
            go_roundg g0
            case rel => exact ⟨i + 1, some ⟨ax, 0, none⟩, d, o.set j ⟨0, 0, da ++ data⟩, by rw [List.length_set], rfl, by omega, by rw [List.length_set]; omega, HOr2, by rw [List.length_set]; exact HS6, HD⟩
            case measure => omega
          · skip
            subst h3
            have hst5 := HI5.out.store rfl hjo ⟨fa, ma + many, ⟨#[]⟩⟩
            obtain ⟨z0, z1, z2⟩ := hst5.2
            obtain ⟨y0, y1, y2⟩ := (HI6.out.store rfl hjo ⟨fa, ma + many, ⟨#[]⟩⟩).2
            have HS6 := hide (hst5.1.step ((Below.refl _ _).alloc (Nat.le_refl _) (.cells #[.int .i64 fa, .int .i64 ma, .string da] 69)))
            have e1 : (ma == 0) = false := by rw [beq_eq_false_iff_ne]; omega
            clear HI6 HI5 hst5
            go_wp2_with fail
            go_roundg g0
            case rel => exact ⟨i + 1, some ⟨ax, 0, none⟩, d, o.set j ⟨fa, ma + many, ⟨#[]⟩⟩, by rw [List.length_set], rfl, by omega, by rw [List.length_set]; omega, HOr2, by rw [List.length_set]; exact HS6, HD⟩
            case measure => omega
          · have hO7 := HI6.out.own.alloc (.cells (Tk.cells ⟨fr, many, data⟩) 69)
            have hRn := RdT.one (w3.alloc (.cells #[.int .i64 fa, .int .i64 ma, .string da] 69)) ⟨fr, many, data⟩ 69
            have hB7 := HI6.out.below.alloc HI6.out.below.size (.cells (Tk.cells ⟨fr, many, data⟩) 69)
            have hsz7 := hB7.size
            have hz3 : (w3.alloc (.cells #[.int .i64 fa, .int .i64 ma, .string da] 69)).heap.size = w3.heap.size + 1 := by simp
            rw [hz3] at hRn
            clear HI6 HI5 hz3
            rcases hc with ⟨h1, h2, h3⟩ | ⟨h1, h2⟩ | ⟨h1, h2⟩ | ⟨h1, h2, h3⟩
            · subst h1
              subst h2
              go_wp2_with (at_builtin; go_loud (refine wpList_append_toks rfl _ _ 63 rfl w.heap.size 69 i0 Try.underlying63 hi hz0 hz1 hz2 _ _ _ rfl hO7 (some ⟨w3.heap.size + 1, 0, none⟩) _ 1 _ [⟨fr, 0, data⟩] rfl rfl hRn (by unfold maxLen; omega) (by omega) hsz7 ?_))
              intro v5 w5 hO5 hg5
              have hB5 := hB7.grown hg5 hB7.size (fun r e => (hO7.lt r e).1)
              obtain ⟨D, g, rfl⟩ := ownsRow_slice hO5
              have hlen9 : (o ++ [(⟨fr, 0, data⟩ : Tk)]).length = o.length + 1 := by simp
              have HI7 := hide (show TI w 69 (.slice D (o ++ [(⟨fr, 0, data⟩ : Tk)]).length g) (o ++ [⟨fr, 0, data⟩]) w5 from ⟨hB5, by rw [cellsT_app, hlen9]; exact hO5⟩)
              rw [hlen9] at HI7
              clear hO7 hRn hB7 hO5 hg5 hB5 hsz7 k0 k1 k2 x0 x1 x2
              go_wp2_with fail
              go_roundg g0
              case rel => exact ⟨i + 1, D, g, o ++ [⟨fr, 0, data⟩], by rw [hlen9], rfl, by omega, by rw [hlen9]; omega, HOr2, by rw [hlen9]; exact HI7, HD⟩
              case measure => omega
            · subst h1
              have e2 : (many == 0) = false := by rw [beq_eq_false_iff_ne]; omega
              go_wp2_with (at_builtin; go_loud (refine wpList_append_toks rfl _ _ 63 rfl w.heap.size 69 i0 Try.underlying63 hi hz0 hz1 hz2 _ _ _ rfl hO7 (some ⟨w3.heap.size + 1, 0, none⟩) _ 1 _ [⟨fr, many, data⟩] rfl rfl hRn (by unfold maxLen; omega) (by omega) hsz7 ?_))
              intro v5 w5 hO5 hg5
              have hB5 := hB7.grown hg5 hB7.size (fun r e => (hO7.lt r e).1)
              obtain ⟨D, g, rfl⟩ := ownsRow_slice hO5
              have hlen9 : (o ++ [(⟨fr, many, data⟩ : Tk)]).length = o.length + 1 := by simp
              have HI7 := hide (show TI w 69 (.slice D (o ++ [(⟨fr, many, data⟩ : Tk)]).length g) (o ++ [⟨fr, many, data⟩]) w5 from ⟨hB5, by rw [cellsT_app, hlen9]; exact hO5⟩)
              rw [hlen9] at HI7
              clear hO7 hRn hB7 hO5 hg5 hB5 hsz7 k0 k1 k2 x0 x1 x2
              go_wp2_with fail
              go_roundg g0
              case rel => exact ⟨i + 1, D, g, o ++ [⟨fr, many, data⟩], by rw [hlen9], rfl, by omega, by rw [hlen9]; omega, HOr2, by rw [hlen9]; exact HI7, HD⟩
              case measure => omega
            · have e1 : (ma == 0) = false := by rw [beq_eq_false_iff_ne]; omega
              subst h2
              go_wp2_with (at_builtin; go_loud (refine wpList_append_toks rfl _ _ 63 rfl w.heap.size 69 i0 Try.underlying63 hi hz0 hz1 hz2 _ _ _ rfl hO7 (some ⟨w3.heap.size + 1, 0, none⟩) _ 1 _ [⟨fr, 0, data⟩] rfl rfl hRn (by unfold maxLen; omega) (by omega) hsz7 ?_))
              intro v5 w5 hO5 hg5
              have hB5 := hB7.grown hg5 hB7.size (fun r e => (hO7.lt r e).1)
              obtain ⟨D, g, rfl⟩ := ownsRow_slice hO5
              have hlen9 : (o ++ [(⟨fr, 0, data⟩ : Tk)]).length = o.length + 1 := by simp
              have HI7 := hide (show TI w 69 (.slice D (o ++ [(⟨fr, 0, data⟩ : Tk)]).length g) (o ++ [⟨fr, 0, data⟩]) w5 from ⟨hB5, by rw [cellsT_app, hlen9]; exact hO5⟩)
              rw [hlen9] at HI7
              clear hO7 hRn hB7 hO5 hg5 hB5 hsz7 k0 k1 k2 x0 x1 x2
              go_wp2_with fail
              go_roundg g0
              case rel => exact ⟨i + 1, D, g, o ++ [⟨fr, 0, data⟩], by rw [hlen9], rfl, by omega, by rw [hlen9]; omega, HOr2, by rw [hlen9]; exact HI7, HD⟩
              case measure => omega
            · have e1 : (ma == 0) = false := by rw [beq_eq_false_iff_ne]; omega
              have e2 : (many == 0) = false := by rw [beq_eq_false_iff_ne]; omega
              have e3 : (fa + ma == fr) = false := by rw [beq_eq_false_iff_ne]; exact h3
              go_wp2_with (at_builtin; go_loud (refine wpList_append_toks rfl _ _ 63 rfl w.heap.size 69 i0 Try.underlying63 hi hz0 hz1 hz2 _ _ _ rfl hO7 (some ⟨w3.heap.size + 1, 0, none⟩) _ 1 _ [⟨fr, many, data⟩] rfl rfl hRn (by unfold maxLen; omega) (by omega) hsz7 ?_))
              intro v5 w5 hO5 hg5
              have hB5 := hB7.grown hg5 hB7.size (fun r e => (hO7.lt r e).1)
              obtain ⟨D, g, rfl⟩ := ownsRow_slice hO5
              have hlen9 : (o ++ [(⟨fr, many, data⟩ : Tk)]).length = o.length + 1 := by simp
              have HI7 := hide (show TI w 69 (.slice D (o ++ [(⟨fr, many, data⟩ : Tk)]).length g) (o ++ [⟨fr, many, data⟩]) w5 from ⟨hB5, by rw [cellsT_app, hlen9]; exact hO5⟩)
              rw [hlen9] at HI7
              clear hO7 hRn hB7 hO5 hg5 hB5 hsz7 k0 k1 k2 x0 x1 x2
              go_wp2_with fail
              go_roundg g0
              case rel => exact ⟨i + 1, D, g, o ++ [⟨fr, many, data⟩], by rw [hlen9], rfl, by omega, by rw [hlen9]; omega, HOr2, by rw [hlen9]; exact HI7, HD⟩
              case measure => omega
end Go.Proofs.Ytobgbheodlpclaa
