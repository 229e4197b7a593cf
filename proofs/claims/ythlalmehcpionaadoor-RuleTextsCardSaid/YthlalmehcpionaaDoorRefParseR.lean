/-
  The reference's Parse of rules.
-/
import Derived.Test.YthlalmehcpionaaDoorRuleUnderMath
import Derived.Deep.RegionHeld
namespace Go.Proofs.YthlalmehcpionaaDoor
open Go.RowKit
set_option maxRecDepth 100000

theorem toL_get (s : ByteArray) (j : Nat) (h : j < s.size) : (toL s)[j]? = some s[j] := at_toL s j h
theorem index_none_at {s : ByteArray} {a : Nat} (h : ∀ j (hj : j < s.size), a ≤ j → s[j] ≠ 10) : Lib.indexByte ((toL s).drop a) 10 = -1 := by
  rcases index_cases ((toL s).drop a) 10 with h1 | ⟨o, h1⟩
  · exact h1
  · have h2 := (Lib.indexByte_some h1).1
    rw [List.getElem?_drop] at h2
    have hl := (List.getElem?_eq_some_iff.1 h2).1
    rw [size_toL] at hl
    rw [toL_get s _ hl] at h2
    injection h2 with h2
    exact absurd h2 (h _ hl (by omega))
theorem index_some_at {s : ByteArray} {a e : Nat} (hae : a ≤ e) (he : e < s.size) (h10 : s[e] = 10) (h : ∀ j (hj : j < s.size), a ≤ j → j < e → s[j] ≠ 10) : Lib.indexByte ((toL s).drop a) 10 = ((e - a : Nat) : Int) := by
  have g : ((toL s).drop a)[e - a]? = some 10 := by
    rw [List.getElem?_drop, show a + (e - a) = e by omega, toL_get s e he, h10]
  rcases index_cases ((toL s).drop a) 10 with h1 | ⟨o, h1⟩
  · exact absurd g (Lib.indexByte_none h1 _)
  · obtain ⟨h2, h3⟩ := Lib.indexByte_some h1
    rw [h1]
    rcases Nat.lt_trichotomy o (e - a) with hlt | heq | hgt
    · rw [List.getElem?_drop] at h2
      have hl := (List.getElem?_eq_some_iff.1 h2).1
      rw [size_toL] at hl
      rw [toL_get s _ hl] at h2
      injection h2 with h2
      exact absurd h2 (h _ hl (by omega) (by omega))
    · rw [heq]
    · exact absurd g (h3 _ hgt)
/-- A line that ends at a line feed. -/
theorem line_at {s : ByteArray} {a e : Nat} (hae : a ≤ e) (he : e < s.size) (h10 : s[e] = 10) :
    ((((toL s).drop a).take (e - a + 1)).getLast? = some 10) ∧ (((toL s).drop a).take (e - a + 1)).length = e - a + 1 ∧ (∀ (j : Nat) (_ : a + j ≤ e) (h2 : a + j < s.size), (((toL s).drop a).take (e - a + 1))[j]? = some (s[a + j]'h2)) ∧
    (((toL s).drop a).take (e - a + 1)).dropLast.drop 2 = toL (s.extract (a + 2) e) := by
  have hl : (toL s).length = s.size := size_toL s
  have hlen : (((toL s).drop a).take (e - a + 1)).length = e - a + 1 := by rw [List.length_take, List.length_drop]; omega
  have hget : ∀ (j : Nat) (_ : a + j ≤ e) (h2 : a + j < s.size), (((toL s).drop a).take (e - a + 1))[j]? = some (s[a + j]'h2) := fun j h1 h2 => by
    rw [List.getElem?_take, if_pos (by omega), List.getElem?_drop, toL_get s _ h2]
  refine ⟨?_, hlen, hget, ?_⟩
  · rw [List.getLast?_eq_getElem?, hlen, show e - a + 1 - 1 = e - a by omega, hget (e - a) (by omega) (by omega)]
    have : a + (e - a) = e := by omega
    simp only [this, h10]
  · rw [List.dropLast_eq_take, hlen, List.take_take, show min (e - a + 1 - 1) (e - a + 1) = e - a by omega]
    unfold toL
    rw [Lib.extract_data, List.drop_take, List.drop_drop]
    congr 1
theorem line_bad {s : ByteArray} {a : Nat} (h : ∀ j (hj : j < s.size), a ≤ j → s[j] ≠ 10) : oneE ((toL s).drop a) = 3 := by
  refine oneE_bad fun h2 => ?_
  have h3 := h2.1
  rw [List.getLast?_eq_getElem?, List.getElem?_drop] at h3
  have hl := (List.getElem?_eq_some_iff.1 h3).1
  rw [size_toL] at hl
  rw [toL_get s _ hl] at h3
  injection h3 with h3
  exact h _ hl (by omega) h3

/-- What the reference's Parse has put together. -/
structure RI (w : World) (v : Value) (rs : List (Bool × ByteArray)) (W : World) : Prop where
  below : Below w.heap.size w W
  own : W.ownsRow w.heap.size 28 2 v rs.length (cellsR rs)
theorem RI.step {w W W2 : World} {v : Value} {rs : List (Bool × ByteArray)} (h : RI w v rs W) (hb : Below W.heap.size W W2) : RI w v rs W2 := ⟨h.below.trans (hb.mono h.below.size), own_below h.own hb⟩

set_option maxHeartbeats 16000000 in
theorem refParseR_any (s : ByteArray) (w : World) (hs : (s.size : Int) ≤ 1000000) : Calls Tryd.prog 22 #[.string s] w (ParseTo s w) := by
  obtain ⟨i0, hi, hz0, hz1, hz2⟩ := info_parts info_rule
  obtain ⟨T, hT⟩ : ∃ T, T = linesL (toL s) := ⟨_, rfl⟩
  obtain ⟨N, E, hNE⟩ : ∃ N E, parseE 0 T = (N, E) := ⟨_, _, rfl⟩
  have HBadP := hide (show ∀ e w', Below w.heap.size w w' → E ≠ 0 → e = .returned (.tuple #[.slice none 0 0, .int .i64 (N : Nat), .int .i64 (E : Nat)]) → ParseTo s w e w' from fun e w' h1 h2 h3 => ⟨h1, .inl (by rw [← hT, hNE]; exact ⟨h2, h3⟩)⟩)
  have HGoodP := hide (show ∀ e w' (A : Option Addr) (rs : List (Bool × ByteArray)) (c : Nat), Below w.heap.size w w' → (N, E) = ((0, 0) : Nat × Nat) → e = .returned (.tuple #[.slice A rs.length c, .int .i64 0, .int .i64 0]) → rulesL rs = T.map oneR → RdR w' w'.heap.size A rs → (∀ (k : Nat) (r : Bool × ByteArray), rs[k]? = some r → r.2.size ≤ s.size) → rs.length ≤ 16 → ParseTo s w e w' from
    fun e w' A rs c h1 h2 h3 h4 h5 h6 h7 => ⟨h1, .inr (by rw [← hT, hNE]; exact ⟨h2, A, rs, c, h3, h4, h5, h6, h7⟩)⟩)
  have HT := hide hT
  have HNE := hide hNE
  clear hT hNE
  go_enter Tryd.func22, Tryd.ntmps22
  go_wp2_with fail
  go_loopg [5, 6, 7] s.size (fun gk v av nv wr => ∃ (a : Nat) (A : Option Addr) (c : Nat) (rs : List (Bool × ByteArray)), v = .slice A rs.length c ∧ av = .int .i64 a ∧ nv = .int .i64 ((rs.length : Int) + 1) ∧ a + gk = s.size ∧ rs.length ≤ 16 ∧ RI w (.slice A rs.length c) rs wr ∧ Hid (parseE 0 T = parseE rs.length (linesL ((toL s).drop a))) ∧ Hid (rulesL rs ++ (linesL ((toL s).drop a)).map oneR = T.map oneR) ∧ Hid (∀ (k : Nat) (r : Bool × ByteArray), rs[k]? = some r → r.2.size ≤ s.size))
  case atStart => exact ⟨0, none, 0, [], rfl, rfl, rfl, by omega, by simp, ⟨Below.refl _ _, World.ownsRow_nil _ _ _ _⟩, hide (by rw [HT.out]; rfl), hide (by rw [HT.out]; rfl), hide (fun k r h => by simp at h)⟩
  case round =>
    obtain ⟨a, A, c, rs, rfl, rfl, rfl, hag, hl16, hI, HP, HR, HFs⟩ := hrel
    cases gk with
    | zero =>
      obtain rfl : a = s.size := by omega
      have hd : (toL s).drop s.size = [] := List.drop_of_length_le (by rw [size_toL]; exact Nat.le_refl _)
      have HE := hide (show (N, E) = ((0, 0) : Nat × Nat) by rw [← HNE.out, HP.out, hd]; rfl)
      have HR2 := hide (show rulesL rs = T.map oneR by rw [← HR.out, hd]; simp [linesL])
      have HI := hide hI
      clear HP HR hd hag hI
      go_wp2_with fail
      exact bodyPost_ret (v := .tuple #[.slice A rs.length c, .int .i64 0, .int .i64 0]) (by simp [results, Tryd.results22, go_sem]) rfl (HGoodP.out _ _ A rs c HI.out.below HE.out rfl HR2.out (RdR.own HI.out.own) HFs.out hl16)
    | succ g0 =>
      have hai : (a : Int) < s.size := by omega
      have hne : (toL s).drop a ≠ [] := fun h => by
        have h2 := congrArg List.length h
        rw [List.length_drop, size_toL, List.length_nil] at h2
        omega
      obtain ⟨x, t, hx⟩ : ∃ x t, linesL ((toL s).drop a) = x :: t := by
        rcases index_cases ((toL s).drop a) 10 with h | ⟨o, h⟩
        · exact ⟨_, _, lines_none _ h hne⟩
        · exact ⟨_, _, (lines_some _ o h).1⟩
      by_cases h16 : rs.length = 16
      · have hp := HP.out
        rw [hx, parse_full h16, HNE.out] at hp
        have hN := hide (show N = rs.length + 1 from congrArg Prod.fst hp)
        have hE := hide (show E = 5 from congrArg Prod.snd hp)
        have h16i : (16 : Int) < (rs.length : Int) + 1 := by omega
        have HI := hide hI
        clear hp hx hne HP HR hI h16
        go_wp2_with fail
        exact bodyPost_ret (v := .tuple #[.slice none 0 0, .int .i64 ((rs.length : Int) + 1), .int .i64 5]) (by simp [results, Tryd.results22, go_sem]) rfl (HBadP.out _ _ HI.out.below (by rw [hE.out]; decide) (by rw [hN.out, hE.out]; rfl))
      · have h16i : ¬ (16 : Int) < (rs.length : Int) + 1 := by omega
        have HX := hide hx
        have HNe := hide hne
        have HI := hide hI
        have H16 := hide h16
        clear hx hne hI h16
        have HErr := hide (show oneE x = 3 → N = rs.length + 1 ∧ E = 3 from fun h => by
          have hp := HP.out
          rw [HX.out, parse_bad H16.out (by rw [h]; decide), HNE.out, h] at hp
          exact ⟨congrArg Prod.fst hp, congrArg Prod.snd hp⟩)
        go_wp2_with fail
        go_loopg [8] (g0 + 1) (fun gk2 ev wr2 => ∃ e : Nat, ev = .int .i64 e ∧ a ≤ e ∧ e + gk2 = s.size ∧ Hid (∀ (j : Nat) (hj : j < s.size), a ≤ j → j < e → s[j] ≠ 10) ∧ wr2 = wr)
        case atStart => exact ⟨a, rfl, Nat.le_refl _, hag, hide (fun j hj h1 h2 => by omega), rfl⟩
        case round =>
          obtain ⟨e, rfl, hae, heg, HNo, rfl⟩ := hrel
          cases gk with
          | zero =>
            obtain rfl : e = s.size := by omega
            have hx3 : oneE x = 3 := by
              have h1 := lines_none _ (index_none_at (s := s) (a := a) (fun j hj h => HNo.out j hj h hj)) HNe.out
              rw [HX.out] at h1
              injection h1 with h1
              rw [h1]
              exact line_bad (fun j hj h => HNo.out j hj h hj)
            obtain ⟨n1, n2⟩ := HErr.out hx3
            have hN := hide n1
            have hE := hide n2
            clear hx3 n1 n2 heg HNo HErr
            go_wp2_with fail
            exact bodyPost_ret (v := .tuple #[.slice none 0 0, .int .i64 ((rs.length : Int) + 1), .int .i64 3]) (by simp [results, Tryd.results22, go_sem]) rfl (HBadP.out _ _ HI.out.below (by rw [hE.out]; decide) (by rw [hN.out, hE.out]; rfl))
          | succ g1 =>
            have hes : e < s.size := by omega
            have hei : (e : Int) < s.size := by omega
            obtain ⟨y, hy⟩ : ∃ y, s[e]'hes = y := ⟨_, rfl⟩
            by_cases hy10 : y = 10
            · subst hy10
              have hlt2 := lines_some _ _ (index_some_at hae hes hy (fun j hj h1 h2 => HNo.out j hj h1 h2))
              obtain ⟨hl1, hl2⟩ := hlt2
              rw [HX.out] at hl1
              injection hl1 with hxe hte
              obtain ⟨L1, L2, L3, L4⟩ := line_at hae hes hy
              rw [← hxe] at L1 L2 L3 L4
              have hdrop : ((toL s).drop a).drop (e - a + 1) = (toL s).drop (e + 1) := by rw [List.drop_drop]; congr 1; omega
              rw [hdrop] at hte
              have hei2 : ((e : Int) == s.size) = false := beq_eq_false_iff_ne.2 (by omega)
              have hea : IntKind.i64.wrap ((e : Int) - a) = ((e - a : Nat) : Int) := by rw [IntWalk.i64_in _ (by omega)]; omega
              have hy2 : ((((10 : UInt8)).toNat : Int) == 10) = true := rfl
              have hy3 : ((((10 : UInt8)).toNat : Int) != 10) = false := rfl
              by_cases h2 : e - a < 2
              · have hx3 : oneE x = 3 := oneE_bad fun h => by have := h.2.1; omega
                obtain ⟨n1, n2⟩ := HErr.out hx3
                have hN := hide n1
                have hE := hide n2
                have h2i : ((e - a : Nat) : Int) < 2 := by omega
                clear hx3 n1 n2 heg HNo HErr L1 L2 L3 L4 hxe hte hdrop hl2 h2
                go_wp2_with fail
                exact bodyPost_ret (v := .tuple #[.slice none 0 0, .int .i64 ((rs.length : Int) + 1), .int .i64 3]) (by simp [results, Tryd.results22, go_sem]) rfl (HBadP.out _ _ HI.out.below (by rw [hE.out]; decide) (by rw [hN.out, hE.out]; rfl))
              · have hl : a + 2 ≤ e := by omega
                have p0 : a < s.size := by omega
                obtain ⟨a1, ha1⟩ : ∃ a1, a1 = a + 1 := ⟨_, rfl⟩
                have p1 : a1 < s.size := by omega
                obtain ⟨x0, hx0⟩ : ∃ x, s[a]'p0 = x := ⟨_, rfl⟩
                obtain ⟨x1, hx1⟩ : ∃ x, s[a1]'p1 = x := ⟨_, rfl⟩
                have e0 : x[0]? = some x0 := by rw [L3 0 (by omega) (by omega), ← hx0]; simp
                have e1 : x[1]? = some x1 := by rw [L3 1 (by omega) (by omega), ← hx1]; simp only [ha1]
                have h2i : ¬ ((e - a : Nat) : Int) < 2 := by omega
                have q0 : (a : Int) < s.size := by omega
                have q1 : (a1 : Int) < s.size := by omega
                have q2 : (a : Int) + 1 = (a1 : Int) := by omega
                have q3 : IntKind.i64.wrap (a1 : Int) = (a1 : Int) := IntWalk.i64_in _ (by omega)
                have hu : ∀ a b : UInt8, a ≠ b → ((a.toNat : Int) == (b.toNat : Int)) = false := fun a b h => beq_eq_false_iff_ne.2 fun e => h (UInt8.toNat_inj.1 (by omega))
                have hcase : (((x0.toNat : Int) == 43) = false ∧ ((x0.toNat : Int) == 45) = false ∧ oneE x = 3) ∨ ((x0 = 43 ∨ x0 = 45) ∧ ((x1.toNat : Int) == 32) = false ∧ oneE x = 3) ∨ ((x0 = 43 ∨ x0 = 45) ∧ x1 = 32) := by
                  by_cases a43 : x0 = 43 ∨ x0 = 45
                  · by_cases a32 : x1 = 32
                    · exact .inr (.inr ⟨a43, a32⟩)
                    · refine .inr (.inl ⟨a43, hu x1 32 a32, oneE_bad fun h => a32 ?_⟩)
                      have h5 := h.2.2.2
                      rw [e1] at h5
                      simpa using h5
                  · refine .inl ⟨hu x0 43 fun h => a43 (.inl h), hu x0 45 fun h => a43 (.inr h), oneE_bad fun h => a43 ?_⟩
                    have h5 := h.2.2.1
                    rw [e0] at h5
                    simpa using h5
                have HA1 := hide ha1
                clear hu h2 ha1
                rcases hcase with ⟨z1, z2, hx3⟩ | ⟨hz, z1, hx3⟩ | ⟨hz, rfl⟩
                · obtain ⟨n1, n2⟩ := HErr.out hx3
                  have hN := hide n1
                  have hE := hide n2
                  have z3 : ((x0.toNat : Int) != 43) = true := by rw [bne, z1]; rfl
                  have z4 : ((x0.toNat : Int) != 45) = true := by rw [bne, z2]; rfl
                  clear hx3 n1 n2 heg HNo HErr L1 L2 L3 L4 hxe hte hdrop hl2 e0 e1
                  go_wp2_with fail
                  exact bodyPost_ret (v := .tuple #[.slice none 0 0, .int .i64 ((rs.length : Int) + 1), .int .i64 3]) (by simp [results, Tryd.results22, go_sem]) rfl (HBadP.out _ _ HI.out.below (by rw [hE.out]; decide) (by rw [hN.out, hE.out]; rfl))
                · obtain ⟨n1, n2⟩ := HErr.out hx3
                  have hN := hide n1
                  have hE := hide n2
                  have z3 : ((x1.toNat : Int) != 32) = true := by rw [bne, z1]; rfl
                  clear hx3 n1 n2 heg HNo HErr L1 L2 L3 L4 hxe hte hdrop hl2 e0 e1
                  rcases hz with rfl | rfl
                  · go_wp2_with fail
                    exact bodyPost_ret (v := .tuple #[.slice none 0 0, .int .i64 ((rs.length : Int) + 1), .int .i64 3]) (by simp [results, Tryd.results22, go_sem]) rfl (HBadP.out _ _ HI.out.below (by rw [hE.out]; decide) (by rw [hN.out, hE.out]; rfl))
                  · go_wp2_with fail
                    exact bodyPost_ret (v := .tuple #[.slice none 0 0, .int .i64 ((rs.length : Int) + 1), .int .i64 3]) (by simp [results, Tryd.results22, go_sem]) rfl (HBadP.out _ _ HI.out.below (by rw [hE.out]; decide) (by rw [hN.out, hE.out]; rfl))
                · obtain ⟨pat, hpat⟩ : ∃ pat, pat = s.extract (a + 2) e := ⟨_, rfl⟩
                  obtain ⟨kp, hkp⟩ : ∃ kp, kp = ((x0.toNat : Int) == 43) := ⟨_, rfl⟩
                  have hkx : kp = (x0 == 43) := by rw [hkp]; rcases hz with rfl | rfl <;> rfl
                  obtain ⟨K, hK⟩ : ∃ K, K = checkL (toL pat) := ⟨_, rfl⟩
                  have hone : oneE x = K := by
                    rw [oneE_ok ⟨L1, by omega, by rw [e0]; simpa using hz, e1⟩, L4, hK, hpat]
                  have hrr : (kp, toL pat) = oneR x := by
                    unfold oneR
                    rw [e0, L4, hkx, hpat]
                    simp
                  have hps : pat.size ≤ s.size := by rw [hpat, ByteArray.size_extract]; omega
                  have HCk := hide (fun W => refCheck_any kp pat W (by omega))
                  rw [← hK] at HCk
                  have HOne := hide hone
                  have HRr := hide hrr
                  have HPs := hide hps
                  have HTe := hide hte
                  have q4 : IntKind.i64.wrap ((a : Int) + 2) = ((a + 2 : Nat) : Int) := by rw [IntWalk.i64_in _ (by omega)]; rfl
                  have q5 : ((a + 2 : Nat) : Int) ≤ e := by omega
                  have q6 : (e : Int) ≤ s.size := by omega
                  have q7 : (0 : Int) ≤ ((a + 2 : Nat) : Int) := by omega
                  have q8 : (a : Int) + 2 ≤ e := by omega
                  have q9 : (0 : Int) ≤ (a : Int) + 2 := by omega
                  have hkp2 : ((x0.toNat : Int) == 43) = kp := hkp.symm
                  have hkp3 : ((x0.toNat : Int) != 43) = !kp := by rw [bne, hkp2]
                  have hkp4 : kp = false → ((x0.toNat : Int) != 45) = false := by
                    intro h
                    rcases hz with rfl | rfl
                    · rw [hkx] at h; cases h
                    · rfl
                  have HPat := hide (show pat = s.extract ((a : Int) + 2).toNat e by rw [hpat]; congr 1)
                  clear hkx hK hone hrr hps hte HNo HErr L1 L2 L3 L4 hxe hdrop hl2 e0 e1 hz hkp hpat
                  cases kp with
                  | true =>
                    go_wp2_with fail
                    refine wp_region_noPanic ?_
                    go_region_held (fun _ => True) (trivial) (fail)
                    all_goals
                      refine NoPanic.normal ?_
                      rename_i hH
                      clear hH
                      rw [← HPat.out]
                      generalize hW : (wr.alloc (Obj.cells #[Value.bool true, Value.string pat] 28)).drew = W2
                      have r2 : W2.heap[wr.heap.size]? = some (.cells #[.bool true, .string pat] 28 (0, 0)) := by rw [← hW]; exact World.alloc_heap_new wr _
                      have hB2 : Below wr.heap.size wr W2 := by rw [← hW]; exact below_drew ((Below.refl _ wr).alloc (Nat.le_refl _) _)
                      have c0 : W2.cell? ⟨wr.heap.size, 0, none⟩ = some (.bool true) := cell_of_row _ _ _ _ _ _ r2
                      have c1 : W2.cell? ⟨wr.heap.size, 1, none⟩ = some (.string pat) := cell_of_row _ _ _ _ _ _ r2
                      have hI2 := HI.out.step hB2
                      clear hW hB2
                      go_wp2_with fail
                      refine (HCk.out _).mono ?_
                      rintro en W3 ⟨rfl, hb3⟩
                      have r3 := (hb3.block _ (Array.getElem?_eq_some_iff.1 r2).1).trans r2
                      have d0 : W3.cell? ⟨wr.heap.size, 0, none⟩ = some (.bool true) := cell_of_row _ _ _ _ _ _ r3
                      have d1 : W3.cell? ⟨wr.heap.size, 1, none⟩ = some (.string pat) := cell_of_row _ _ _ _ _ _ r3
                      have hI3 := hI2.step hb3
                      clear c0 c1 r2 hb3 hI2 r3
                      by_cases hK0 : K = 0
                      · subst hK0
                        have hO3 := hI3.own
                        go_wp2_with (at_builtin; refine wpList_append_own _ rfl _ _ 22 rfl w.heap.size 28 i0 _ 2 24 Tryd.underlying22 hi hz0 hz1 hz2 rfl (by decide) _ _ _ rfl (hO3.alloc _) ⟨W3.heap.size, 0, none⟩ 1 1 [.bool true, .string pat] rfl rfl (cells_new1 _ _ _ _) (by simp [Value.oneCell']) (by unfold maxLen; omega) (by omega) (by have := hI3.below.size; simp; omega) ?_)
                        intro v' W4 hO' hg hnil
                        obtain ⟨g', cap', rfl⟩ := ownsRow_succ hO'
                        have hB4 := (hI3.below.alloc hI3.below.size _).grown hg (by have := hI3.below.size; simp; omega) (fun r e => (hO3.lt r e).1)
                        have hI4 : RI w (.slice (some ⟨g', 0, none⟩) (rs ++ [(true, pat)]).length cap') (rs ++ [(true, pat)]) W4 := ⟨hB4, by rw [List.length_append, cellsR_snoc]; exact hO'⟩
                        have HI4 := hide hI4
                        have HParse := hide (show parseE 0 T = parseE (rs ++ [(true, pat)]).length (linesL ((toL s).drop (e + 1))) by
                          rw [HP.out, HX.out, parse_good H16.out HOne.out, HTe.out, List.length_append]; rfl)
                        have HRules := hide (show rulesL (rs ++ [(true, pat)]) ++ (linesL ((toL s).drop (e + 1))).map oneR = T.map oneR by
                          rw [← HR.out, HX.out, rulesL_snoc, List.map_cons, ← HRr.out, ← HTe.out]; simp)
                        have HFew := hide (show ∀ (k : Nat) (r : Bool × ByteArray), (rs ++ [(true, pat)])[k]? = some r → r.2.size ≤ s.size from fun k r hk => by
                          rcases List.mem_append.1 (List.mem_of_getElem? hk) with h | h
                          · obtain ⟨j, hj⟩ := List.getElem?_of_mem h
                            exact HFs.out j r hj
                          · rw [List.mem_singleton.1 h]; exact HPs.out)
                        clear hO' hg hnil hB4 hI4 hO3 hI3 d0 d1
                        go_wp2_with fail
                        go_roundg g1
                        case rel => exact ⟨e + 1, some ⟨g', 0, none⟩, cap', rs ++ [(true, pat)], by rw [List.length_append]; rfl, rfl, by rw [List.length_append]; rfl, by omega, by have := H16.out; rw [List.length_append]; simp; omega, HI4.out, HParse, HRules, HFew⟩
                        case measure => omega
                      · have hp := HP.out
                        rw [HX.out, parse_bad H16.out (by rw [HOne.out]; exact hK0), HNE.out, HOne.out] at hp
                        have hN := hide (show N = rs.length + 1 from congrArg Prod.fst hp)
                        have hE := hide (show E = K from congrArg Prod.snd hp)
                        have HK0 := hide hK0
                        have hk1 : ((K : Int) == 0) = false := by rw [beq_eq_false_iff_ne]; omega
                        have hk2 : ((K : Int) != 0) = true := by rw [bne, hk1]; rfl
                        have HI3 := hide hI3
                        clear hp hK0 hI3
                        go_wp2_with fail
                        refine (HCk.out _).mono ?_
                        rintro en W4 ⟨rfl, hb4⟩
                        have HI4 := hide (HI3.out.step hb4)
                        clear hb4
                        go_wp2_with fail
                        exact bodyPost_ret (v := .tuple #[.slice none 0 0, .int .i64 ((rs.length : Int) + 1), .int .i64 (K : Nat)]) (by simp [results, Tryd.results22, go_sem]) rfl (HBadP.out _ _ HI4.out.below (by rw [hE.out]; exact HK0.out) (by rw [hN.out, hE.out]; rfl))
                  | false =>
                    have hkp5 := hkp4 rfl
                    go_wp2_with fail
                    refine wp_region_noPanic ?_
                    go_region_held (fun _ => True) (trivial) (fail)
                    all_goals
                      refine NoPanic.normal ?_
                      rename_i hH
                      clear hH
                      rw [← HPat.out]
                      generalize hW : (wr.alloc (Obj.cells #[Value.bool false, Value.string pat] 28)).drew = W2
                      have r2 : W2.heap[wr.heap.size]? = some (.cells #[.bool false, .string pat] 28 (0, 0)) := by rw [← hW]; exact World.alloc_heap_new wr _
                      have hB2 : Below wr.heap.size wr W2 := by rw [← hW]; exact below_drew ((Below.refl _ wr).alloc (Nat.le_refl _) _)
                      have c0 : W2.cell? ⟨wr.heap.size, 0, none⟩ = some (.bool false) := cell_of_row _ _ _ _ _ _ r2
                      have c1 : W2.cell? ⟨wr.heap.size, 1, none⟩ = some (.string pat) := cell_of_row _ _ _ _ _ _ r2
                      have hI2 := HI.out.step hB2
                      clear hW hB2
                      go_wp2_with fail
                      refine (HCk.out _).mono ?_
                      rintro en W3 ⟨rfl, hb3⟩
                      have r3 := (hb3.block _ (Array.getElem?_eq_some_iff.1 r2).1).trans r2
                      have d0 : W3.cell? ⟨wr.heap.size, 0, none⟩ = some (.bool false) := cell_of_row _ _ _ _ _ _ r3
                      have d1 : W3.cell? ⟨wr.heap.size, 1, none⟩ = some (.string pat) := cell_of_row _ _ _ _ _ _ r3
                      have hI3 := hI2.step hb3
                      clear c0 c1 r2 hb3 hI2 r3
                      by_cases hK0 : K = 0
                      · subst hK0
                        have hO3 := hI3.own
                        go_wp2_with (at_builtin; refine wpList_append_own _ rfl _ _ 22 rfl w.heap.size 28 i0 _ 2 24 Tryd.underlying22 hi hz0 hz1 hz2 rfl (by decide) _ _ _ rfl (hO3.alloc _) ⟨W3.heap.size, 0, none⟩ 1 1 [.bool false, .string pat] rfl rfl (cells_new1 _ _ _ _) (by simp [Value.oneCell']) (by unfold maxLen; omega) (by omega) (by have := hI3.below.size; simp; omega) ?_)
                        intro v' W4 hO' hg hnil
                        obtain ⟨g', cap', rfl⟩ := ownsRow_succ hO'
                        have hB4 := (hI3.below.alloc hI3.below.size _).grown hg (by have := hI3.below.size; simp; omega) (fun r e => (hO3.lt r e).1)
                        have hI4 : RI w (.slice (some ⟨g', 0, none⟩) (rs ++ [(false, pat)]).length cap') (rs ++ [(false, pat)]) W4 := ⟨hB4, by rw [List.length_append, cellsR_snoc]; exact hO'⟩
                        have HI4 := hide hI4
                        have HParse := hide (show parseE 0 T = parseE (rs ++ [(false, pat)]).length (linesL ((toL s).drop (e + 1))) by
                          rw [HP.out, HX.out, parse_good H16.out HOne.out, HTe.out, List.length_append]; rfl)
                        have HRules := hide (show rulesL (rs ++ [(false, pat)]) ++ (linesL ((toL s).drop (e + 1))).map oneR = T.map oneR by
                          rw [← HR.out, HX.out, rulesL_snoc, List.map_cons, ← HRr.out, ← HTe.out]; simp)
                        have HFew := hide (show ∀ (k : Nat) (r : Bool × ByteArray), (rs ++ [(false, pat)])[k]? = some r → r.2.size ≤ s.size from fun k r hk => by
                          rcases List.mem_append.1 (List.mem_of_getElem? hk) with h | h
                          · obtain ⟨j, hj⟩ := List.getElem?_of_mem h
                            exact HFs.out j r hj
                          · rw [List.mem_singleton.1 h]; exact HPs.out)
                        clear hO' hg hnil hB4 hI4 hO3 hI3 d0 d1
                        go_wp2_with fail
                        go_roundg g1
                        case rel => exact ⟨e + 1, some ⟨g', 0, none⟩, cap', rs ++ [(false, pat)], by rw [List.length_append]; rfl, rfl, by rw [List.length_append]; rfl, by omega, by have := H16.out; rw [List.length_append]; simp; omega, HI4.out, HParse, HRules, HFew⟩
                        case measure => omega
                      · have hp := HP.out
                        rw [HX.out, parse_bad H16.out (by rw [HOne.out]; exact hK0), HNE.out, HOne.out] at hp
                        have hN := hide (show N = rs.length + 1 from congrArg Prod.fst hp)
                        have hE := hide (show E = K from congrArg Prod.snd hp)
                        have HK0 := hide hK0
                        have hk1 : ((K : Int) == 0) = false := by rw [beq_eq_false_iff_ne]; omega
                        have hk2 : ((K : Int) != 0) = true := by rw [bne, hk1]; rfl
                        have HI3 := hide hI3
                        clear hp hK0 hI3
                        go_wp2_with fail
                        refine (HCk.out _).mono ?_
                        rintro en W4 ⟨rfl, hb4⟩
                        have HI4 := hide (HI3.out.step hb4)
                        clear hb4
                        go_wp2_with fail
                        exact bodyPost_ret (v := .tuple #[.slice none 0 0, .int .i64 ((rs.length : Int) + 1), .int .i64 (K : Nat)]) (by simp [results, Tryd.results22, go_sem]) rfl (HBadP.out _ _ HI4.out.below (by rw [hE.out]; exact HK0.out) (by rw [hN.out, hE.out]; rfl))
            · have hyn : ((y.toNat : Int) == 10) = false := beq_eq_false_iff_ne.2 fun h => hy10 (UInt8.toNat_inj.1 (by have : (10 : UInt8).toNat = 10 := rfl; omega))
              have hyn2 : ((y.toNat : Int) != 10) = true := by rw [bne, hyn]; rfl
              have hew : IntKind.i64.wrap ((e : Int) + 1) = ((e + 1 : Nat) : Int) := by rw [IntWalk.i64_in _ (by omega)]; rfl
              have HNo2 := hide (show ∀ (j : Nat) (hj : j < s.size), a ≤ j → j < e + 1 → s[j] ≠ 10 from fun j hj h1 h2 => by
                by_cases hje : j = e
                · subst hje
                  rw [hy]; exact hy10
                · exact HNo.out j hj h1 (by omega))
              clear hy10 HNo
              go_wp2_with fail
              go_roundg g1
              case rel => exact ⟨e + 1, rfl, by omega, by omega, HNo2, rfl⟩
              case measure => omega
end Go.Proofs.YthlalmehcpionaaDoor
