/-
  The law RuleUnder answers true.
-/
import Derived.Test.YthlalmehcpionaaDoorRuleUnderMath
namespace Go.Proofs.YthlalmehcpionaaDoor
open Go.RowKit
set_option maxRecDepth 100000

/-- What the loop of RuleUnder goes over. -/
structure UI (w : World) (A : Option Addr) (l : List (Bool × ByteArray)) (v : Value) (W : World) : Prop where
  below : Below w.heap.size w W
  own : W.ownsRow w.heap.size 28 2 v (l.length + 1) (cellsR (l ++ [(false, ⟨#[42, 42]⟩)]))
  rd : RdR W W.heap.size A l
theorem UI.step {w W W2 : World} {A : Option Addr} {l : List (Bool × ByteArray)} {v : Value} (h : UI w A l v W) (hb : Below W.heap.size W W2) : UI w A l v W2 := ⟨h.below.trans (hb.mono h.below.size), own_below h.own hb, h.rd.step hb⟩

set_option maxHeartbeats 4000000 in
theorem under_awake (A : Option Addr) (l : List (Bool × ByteArray)) (c : Nat) (p q : ByteArray) (w : World) (hR : RdR w w.heap.size A l) (hp : (p.size : Int) ≤ 100 → smallL l = true → (q.size : Int) ≤ 100 → (rightL (toL p) = false ∨ p.toList.isEmpty = true)) :
    Calls Tryd.prog 5 #[.slice A l.length c, .string p, .string q] w fun e w' => e = .returned (.bool true) ∧ Below w.heap.size w w' := by
  have HS := hide (small_any A l c w hR)
  have HA := hide (fun W => awake_any W)
  obtain ⟨sb, hsb⟩ : ∃ sb, sb = smallL l := ⟨_, rfl⟩
  rw [← hsb] at HS hp
  clear hsb
  have hcase : sb = false ∨ (sb = true ∧ (100 : Int) < p.size) ∨ (sb = true ∧ ¬ (100 : Int) < p.size ∧ (100 : Int) < q.size) ∨ (sb = true ∧ ¬ (100 : Int) < p.size ∧ ¬ (100 : Int) < q.size ∧ rightL (toL p) = false) ∨ (sb = true ∧ ¬ (100 : Int) < p.size ∧ ¬ (100 : Int) < q.size ∧ rightL (toL p) = true ∧ p.toList.isEmpty = true) := by
    cases sb with
    | false => exact .inl rfl
    | true =>
      by_cases h1 : (100 : Int) < p.size
      · exact .inr (.inl ⟨rfl, h1⟩)
      · by_cases h2 : (100 : Int) < q.size
        · exact .inr (.inr (.inl ⟨rfl, h1, h2⟩))
        · rcases hp (by omega) rfl (by omega) with h | h
          · exact .inr (.inr (.inr (.inl ⟨rfl, h1, h2, h⟩)))
          · cases hr : rightL (toL p) with
            | false => exact .inr (.inr (.inr (.inl ⟨rfl, h1, h2, rfl⟩)))
            | true => exact .inr (.inr (.inr (.inr ⟨rfl, h1, h2, rfl, h⟩)))
  clear hp
  rcases hcase with rfl | ⟨rfl, h1⟩ | ⟨rfl, h1, h2⟩ | ⟨rfl, h1, h2, h3⟩ | ⟨rfl, h1, h2, h3, h4⟩
  · go_enter Tryd.func5, Tryd.ntmps5
    go_wp2_with fail
    refine (HS.out).mono ?_
    rintro e w1 ⟨rfl, rfl⟩
    go_wp2_with fail
    refine (HA.out _).mono ?_
    rintro e w2 ⟨rfl, hb2⟩
    go_wp2_with fail
    exact bodyPost_ret (results_tmp rfl _ _ _) rfl ⟨rfl, hb2⟩
  · go_enter Tryd.func5, Tryd.ntmps5
    go_wp2_with fail
    refine (HS.out).mono ?_
    rintro e w1 ⟨rfl, rfl⟩
    go_wp2_with fail
    refine (HA.out _).mono ?_
    rintro e w2 ⟨rfl, hb2⟩
    go_wp2_with fail
    exact bodyPost_ret (results_tmp rfl _ _ _) rfl ⟨rfl, hb2⟩
  · go_enter Tryd.func5, Tryd.ntmps5
    go_wp2_with fail
    refine (HS.out).mono ?_
    rintro e w1 ⟨rfl, rfl⟩
    go_wp2_with fail
    refine (HA.out _).mono ?_
    rintro e w2 ⟨rfl, hb2⟩
    go_wp2_with fail
    exact bodyPost_ret (results_tmp rfl _ _ _) rfl ⟨rfl, hb2⟩
  · have HRt := hide (fun W => refRight_any p W (by omega))
    rw [h3] at HRt
    clear h3
    go_enter Tryd.func5, Tryd.ntmps5
    go_wp2_with fail
    refine (HS.out).mono ?_
    rintro e w1 ⟨rfl, rfl⟩
    go_wp2_with fail
    refine (HRt.out _).mono ?_
    rintro e w2 ⟨rfl, hb2⟩
    go_wp2_with fail
    refine (HA.out _).mono ?_
    rintro e w3 ⟨rfl, hb3⟩
    go_wp2_with fail
    exact bodyPost_ret (results_tmp rfl _ _ _) rfl ⟨rfl, hb2.trans (hb3.mono hb2.size)⟩
  · have HRt := hide (fun W => refRight_any p W (by omega))
    rw [h3] at HRt
    clear h3
    go_enter Tryd.func5, Tryd.ntmps5
    go_wp2_with fail
    refine (HS.out).mono ?_
    rintro e w1 ⟨rfl, rfl⟩
    go_wp2_with fail
    refine (HRt.out _).mono ?_
    rintro e w2 ⟨rfl, hb2⟩
    go_wp2_with fail
    refine (HA.out _).mono ?_
    rintro e w3 ⟨rfl, hb3⟩
    go_wp2_with fail
    exact bodyPost_ret (results_tmp rfl _ _ _) rfl ⟨rfl, hb2.trans (hb3.mono hb2.size)⟩

theorem cells_new1 (w : World) (a b : Value) (T : TypeId) (j : Nat) (u : Value) (h : [a, b][j]? = some u) : (w.alloc (.cells #[a, b] T)).cell? ((⟨w.heap.size, 0, none⟩ : Addr).add j) = some u := by
  rw [add_zero_off]
  exact (cell_of_row _ _ _ _ _ _ (World.alloc_heap_new w _)).trans (by rw [← h]; simp)
set_option maxHeartbeats 16000000 in
theorem under_main (A : Option Addr) (l : List (Bool × ByteArray)) (c : Nat) (p q : ByteArray) (w : World) (hR : RdR w w.heap.size A l) (hnil : A = none → c = 0) (hsm : smallL l = true) (hp : ¬ (100 : Int) < p.size) (hq : ¬ (100 : Int) < q.size) (hr : rightL (toL p) = true) (hne : p.toList.isEmpty = false) :
    Calls Tryd.prog 5 #[.slice A l.length c, .string p, .string q] w fun e w' => e = .returned (.bool true) ∧ Below w.heap.size w w' := by
  have HS := hide (small_any A l c w hR)
  rw [hsm] at HS
  have HA := hide (fun W => awake_any W)
  obtain ⟨hf, hl⟩ := small_few hsm
  have HRt := hide (fun W => refRight_any p W (by omega))
  rw [hr] at HRt
  have hpne : toL p ≠ [] := fun h => by rw [empty_iff'.2 h] at hne; cases hne
  have hn : namesL (toL p) ≠ [] := names_some hpne hr
  obtain ⟨x, hx⟩ : ∃ x, x = p ++ ⟨#[47]⟩ ++ q := ⟨_, rfl⟩
  have hxL : toL x = toL p ++ 47 :: toL q := by rw [hx]; simp [toL]
  have hxs : x.size = p.size + 1 + q.size := by rw [hx, ByteArray.size_append, ByteArray.size_append]; rfl
  obtain ⟨rx, hrx⟩ : ∃ rx, rx = rightL (toL x) := ⟨_, rfl⟩
  have HRx := hide (fun W => refRight_any x W (by omega))
  rw [← hrx] at HRx
  obtain ⟨sp, hsp⟩ : ∃ b, b = shutL (rulesL l) (toL p) true := ⟨_, rfl⟩
  obtain ⟨s1, hs1⟩ : ∃ b, b = shutL (rulesL l) (toL x) true := ⟨_, rfl⟩
  obtain ⟨s0, hs0⟩ : ∃ b, b = shutL (rulesL l) (toL x) false := ⟨_, rfl⟩
  have HSp := hide (fun (W : World) (h : RdR W W.heap.size A l) => shut_any A l c p true W h hf (by omega) (by omega))
  have HS1 := hide (fun (W : World) (h : RdR W W.heap.size A l) => shut_any A l c x true W h hf (by omega) (by omega))
  have HS0 := hide (fun (W : World) (h : RdR W W.heap.size A l) => shut_any A l c x false W h hf (by omega) (by omega))
  rw [← hsp] at HSp
  rw [← hs1] at HS1
  rw [← hs0] at HS0
  have hcase : rx = false ∨ (rx = true ∧ sp = false) ∨ (rx = true ∧ sp = true ∧ s1 = true ∧ s0 = true) := by
    cases rx with
    | false => exact .inl rfl
    | true =>
      cases sp with
      | false => exact .inr (.inl ⟨rfl, rfl⟩)
      | true => exact .inr (.inr ⟨rfl, rfl, by rw [hs1, hxL]; exact shut_under hpne hr (by rw [← hxL, ← hrx]) hsp.symm true, by rw [hs0, hxL]; exact shut_under hpne hr (by rw [← hxL, ← hrx]) hsp.symm false⟩)
  obtain ⟨nm, hnm⟩ : ∃ b, b = (rulesL l).any (fun r => matchesL r.2 (toL p) false) := ⟨_, rfl⟩
  obtain ⟨kl, hkl⟩ : ∃ b, b = keepsL (toL p) false (rulesL l) := ⟨_, rfl⟩
  have HKl := hide (fun (W : World) (h : RdR W W.heap.size A l) => keeps_any A l c p false W h hf (by omega) (by omega))
  rw [← hkl] at HKl
  have hf2 : Few (l ++ [(false, ⟨#[42, 42]⟩)]) := fun k r hk => by
    rcases List.mem_append.1 (List.mem_of_getElem? hk) with h | h
    · obtain ⟨j, hj⟩ := List.getElem?_of_mem h
      exact hf j r hj
    · rw [List.mem_singleton.1 h]; decide
  have HKa := hide (fun (W : World) (D : Option Addr) (d : Nat) (h : RdR W W.heap.size D (l ++ [(false, ⟨#[42, 42]⟩)])) => (show Calls Tryd.prog 15 #[.slice D (l.length + 1) d, .string p, .bool false] W fun e w' => e = .returned (.bool (nm && kl)) ∧ Below W.heap.size W w' from by
    have h2 := keeps_any D (l ++ [(false, ⟨#[42, 42]⟩)]) d p false W h hf2 (by simp; omega) (by omega)
    rw [rulesL_snoc, show (toL (⟨#[42, 42]⟩ : ByteArray)) = [42, 42] from rfl, keeps_more _ _ hn, ← hnm, ← hkl, List.length_append] at h2
    exact h2))
  have HNil := hide (fun (W : World) => (show Calls Tryd.prog 17 #[.slice none 0 0, .string p, .bool true] W fun e w' => e = .returned (.bool false) ∧ Below W.heap.size W w' from by
    have h2 := shut_any none [] 0 p true W (RdR.nil _ _ _) (fun k r h => by simp at h) (by decide) (by omega)
    rw [show rulesL [] = [] from rfl, shut_none] at h2
    exact h2))
  have HNM := hide hnm
  have HF := hide hf
  have HX := hide hx
  obtain ⟨i0, hi, hz0, hz1, hz2⟩ := info_parts info_rule
  have qx : ¬ 9223372036854775807 < p.size + 1 + q.size := by omega
  have qx1 : ¬ 9223372036854775807 < p.size + 1 := by omega
  clear hsm hf hr hpne hn hxL hxs hrx hsp hs1 hs0 hnm hkl hf2
  rw [hx] at HRx HS1 HS0
  clear hx
  have HN := hide hnil
  have HNE := hide hne
  clear hnil hne
  rcases hcase with rfl | ⟨rfl, rfl⟩ | ⟨rfl, rfl, rfl, rfl⟩
  · go_enter Tryd.func5, Tryd.ntmps5
    go_wp2_with fail
    refine (HS.out).mono ?_
    rintro e w1 ⟨rfl, rfl⟩
    go_wp2_with fail
    refine (HRt.out _).mono ?_
    rintro e w2 ⟨rfl, hb2⟩
    have hne := HNE.out
    go_wp2_with fail
    refine (HRx.out _).mono ?_
    rintro e wz ⟨rfl, hb3⟩
    have hRz := (hR.step hb2).step hb3
    have hBz := hb2.trans (hb3.mono hb2.size)
    clear hR hb2 hb3 hne
    have hne := HNE.out
    have hO0 := World.ownsRow_lit (base := wz.heap.size) (e := 28) (size := 2) wz #[] 0 (Nat.le_refl _) (by decide) rfl
    have hB0 : Below wz.heap.size wz (wz.alloc (.cells #[] 28)) := (Below.refl _ wz).alloc (Nat.le_refl _) _
    have hR0 := (hRz.below hB0 (Nat.le_refl _))
    clear HRx HS HRt HSp HS1 HS0
    go_wp2_with (at_builtin; refine wpList_append_rules rfl _ _ rfl wz.heap.size _ 0 [] rfl hO0 A _ c _ l rfl rfl hR0 HN.out (by unfold maxLen; omega) (by omega) (by simp) ?_)
    intro v3 w3 hO3 hg3
    have hB3 := hB0.grown hg3 hB0.size (fun r e => (hO0.lt r e).1)
    obtain ⟨A3, c3, rfl⟩ := ownsRow_slice hO3
    clear hO0 hB0 hR0 hg3
    go_wp2_with (at_builtin; refine wpList_append_own _ rfl _ _ 22 rfl wz.heap.size 28 i0 _ 2 24 Tryd.underlying22 hi hz0 hz1 hz2 rfl (by decide) _ _ _ rfl (hO3.alloc _) ⟨w3.heap.size, 0, none⟩ 1 1 [.bool false, .string ⟨#[42, 42]⟩] rfl rfl (cells_new1 _ _ _ _) (by simp [Value.oneCell']) (by unfold maxLen; omega) (by omega) (by have := hB3.size; simp; omega) ?_)
    intro v4 w4 hO4 hg4 hn4
    have hB4 := (hB3.alloc hB3.size _).grown hg4 (by have := hB3.size; simp; omega) (fun r e => (hO3.lt r e).1)
    obtain ⟨g4, c4, rfl⟩ := ownsRow_succ hO4
    have hU : UI wz A l (.slice (some ⟨g4, 0, none⟩) (l.length + 1) c4) w4 := ⟨hB4, by rw [cellsR_snoc]; exact hO4, (hRz.below hB4 (Nat.le_refl _)).mono hB4.size⟩
    have HBz := hide hBz
    clear hO3 hB3 hO4 hg4 hn4 hB4 hRz hBz
    go_wp2_with fail
    go_loopg [9, 10] l.length (fun gk nv iv wr => ∃ (i : Nat) (b : Bool), iv = .int .i64 i ∧ nv = .bool b ∧ i + gk = l.length ∧ Hid (b = ((rulesL l).take i).any (fun r => matchesL r.2 (toL p) false)) ∧ UI wz A l (.slice (some ⟨g4, 0, none⟩) (l.length + 1) c4) wr)
    case atStart => exact ⟨0, false, rfl, rfl, by omega, hide (by simp), hU⟩
    case round =>
      obtain ⟨i, b, rfl, rfl, hig, HB, hUr⟩ := hrel
      clear hU
      cases gk with
      | zero =>
        obtain rfl : i = l.length := by omega
        have hb : b = nm := by rw [HB.out, HNM.out, List.take_of_length_le (by simp [rulesL])]
        subst hb
        clear HB hig
        go_wp2_with fail
        refine (HA.out _).mono ?_
        rintro e w6 ⟨rfl, hb6⟩
        have hU6 := hUr.step hb6
        clear hUr hb6
        go_wp2_with fail
        refine (HNil.out _).mono ?_
        rintro e w7 ⟨rfl, hb7⟩
        have hU7 := hU6.step hb7
        clear hU6 hb7
        go_wp2_with fail
        refine (HKa.out _ _ _ (RdR.own (by have h := hU7.own; rw [show l.length + 1 = (l ++ [(false, (⟨#[42, 42]⟩ : ByteArray))]).length from by simp] at h; simpa using h))).mono ?_
        rintro e w8 ⟨rfl, hb8⟩
        have hU8 := hU7.step hb8
        clear hU7 hb8
        cases b with
        | true =>
          go_wp2_with fail
          refine (HKl.out _ hU8.rd).mono ?_
          rintro e w9 ⟨rfl, hb9⟩
          have hU9 := hU8.step hb9
          have HBf := hide (HBz.out.trans (hU9.below.mono HBz.out.size))
          clear hU8 hb9 hU9
          go_wp2_with fail
          exact bodyPost_ret (results_tmp rfl _ _ _) rfl ⟨by simp, HBf.out⟩
        | false =>
          have HBf := hide (HBz.out.trans (hU8.below.mono HBz.out.size))
          clear hU8
          go_wp2_with fail
          exact bodyPost_ret (results_tmp rfl _ _ _) rfl ⟨by simp, HBf.out⟩
      | succ g0 =>
        have hii : (i : Int) < l.length := by omega
        obtain ⟨r, hrr⟩ : ∃ r, l[i]? = some r := ⟨_, List.getElem?_eq_getElem (by omega)⟩
        obtain ⟨ad, rfl, hlt, c0, c1⟩ := hUr.rd i r hrr
        obtain ⟨M, hM⟩ : ∃ M, M = matchesL (toL r.2) (toL p) false := ⟨_, rfl⟩
        have HM := hide (fun W => refMatches_any r.1 false r.2 p W (HF.out i r hrr) (by omega))
        rw [← hM] at HM
        have HT := hide (show ((rulesL l).take (i + 1)).any (fun r => matchesL r.2 (toL p) false) = (b || M) by
          have e1 : (rulesL l)[i]? = some (r.1, toL r.2) := by unfold rulesL; rw [List.getElem?_map, hrr]; rfl
          obtain ⟨h1, h2⟩ := List.getElem?_eq_some_iff.1 e1
          rw [List.take_succ_eq_append_getElem h1, h2, List.any_append, ← HB.out, List.any_cons, ← hM]
          simp)
        have hiw : IntKind.i64.wrap ((i : Int) + 1) = ((i + 1 : Nat) : Int) := by rw [IntWalk.i64_in _ (by omega)]; rfl
        clear hM hrr HB
        cases b with
        | true =>
          go_wp2_with fail
          go_roundg g0
          case rel => exact ⟨i + 1, true, rfl, rfl, by omega, hide (by rw [HT.out]; rfl), hUr⟩
          case measure => omega
        | false =>
          go_wp2_with fail
          refine (HM.out _).mono ?_
          rintro e w5 ⟨rfl, hb5⟩
          have hU5 := hUr.step hb5
          clear hUr hb5 c0 c1
          go_wp2_with fail
          go_roundg g0
          case rel => exact ⟨i + 1, M, rfl, rfl, by omega, hide (by rw [HT.out]; simp), hU5⟩
          case measure => omega
  · go_enter Tryd.func5, Tryd.ntmps5
    go_wp2_with fail
    refine (HS.out).mono ?_
    rintro e w1 ⟨rfl, rfl⟩
    go_wp2_with fail
    refine (HRt.out _).mono ?_
    rintro e w2 ⟨rfl, hb2⟩
    have hne := HNE.out
    go_wp2_with fail
    refine (HRx.out _).mono ?_
    rintro e w3 ⟨rfl, hb3⟩
    have hR3 := (hR.step hb2).step hb3
    have hB3 := hb2.trans (hb3.mono hb2.size)
    clear hR hb2 hb3
    go_wp2_with fail
    refine (HSp.out _ hR3).mono ?_
    rintro e wz ⟨rfl, hb4⟩
    have hRz := hR3.step hb4
    have hBz := hB3.trans (hb4.mono hB3.size)
    clear hR3 hB3 hb4 hne
    have hne := HNE.out
    have hO0 := World.ownsRow_lit (base := wz.heap.size) (e := 28) (size := 2) wz #[] 0 (Nat.le_refl _) (by decide) rfl
    have hB0 : Below wz.heap.size wz (wz.alloc (.cells #[] 28)) := (Below.refl _ wz).alloc (Nat.le_refl _) _
    have hR0 := (hRz.below hB0 (Nat.le_refl _))
    clear HRx HS HRt HSp HS1 HS0
    go_wp2_with (at_builtin; refine wpList_append_rules rfl _ _ rfl wz.heap.size _ 0 [] rfl hO0 A _ c _ l rfl rfl hR0 HN.out (by unfold maxLen; omega) (by omega) (by simp) ?_)
    intro v3 w3 hO3 hg3
    have hB3 := hB0.grown hg3 hB0.size (fun r e => (hO0.lt r e).1)
    obtain ⟨A3, c3, rfl⟩ := ownsRow_slice hO3
    clear hO0 hB0 hR0 hg3
    go_wp2_with (at_builtin; refine wpList_append_own _ rfl _ _ 22 rfl wz.heap.size 28 i0 _ 2 24 Tryd.underlying22 hi hz0 hz1 hz2 rfl (by decide) _ _ _ rfl (hO3.alloc _) ⟨w3.heap.size, 0, none⟩ 1 1 [.bool false, .string ⟨#[42, 42]⟩] rfl rfl (cells_new1 _ _ _ _) (by simp [Value.oneCell']) (by unfold maxLen; omega) (by omega) (by have := hB3.size; simp; omega) ?_)
    intro v4 w4 hO4 hg4 hn4
    have hB4 := (hB3.alloc hB3.size _).grown hg4 (by have := hB3.size; simp; omega) (fun r e => (hO3.lt r e).1)
    obtain ⟨g4, c4, rfl⟩ := ownsRow_succ hO4
    have hU : UI wz A l (.slice (some ⟨g4, 0, none⟩) (l.length + 1) c4) w4 := ⟨hB4, by rw [cellsR_snoc]; exact hO4, (hRz.below hB4 (Nat.le_refl _)).mono hB4.size⟩
    have HBz := hide hBz
    clear hO3 hB3 hO4 hg4 hn4 hB4 hRz hBz
    go_wp2_with fail
    go_loopg [9, 10] l.length (fun gk nv iv wr => ∃ (i : Nat) (b : Bool), iv = .int .i64 i ∧ nv = .bool b ∧ i + gk = l.length ∧ Hid (b = ((rulesL l).take i).any (fun r => matchesL r.2 (toL p) false)) ∧ UI wz A l (.slice (some ⟨g4, 0, none⟩) (l.length + 1) c4) wr)
    case atStart => exact ⟨0, false, rfl, rfl, by omega, hide (by simp), hU⟩
    case round =>
      obtain ⟨i, b, rfl, rfl, hig, HB, hUr⟩ := hrel
      clear hU
      cases gk with
      | zero =>
        obtain rfl : i = l.length := by omega
        have hb : b = nm := by rw [HB.out, HNM.out, List.take_of_length_le (by simp [rulesL])]
        subst hb
        clear HB hig
        go_wp2_with fail
        refine (HA.out _).mono ?_
        rintro e w6 ⟨rfl, hb6⟩
        have hU6 := hUr.step hb6
        clear hUr hb6
        go_wp2_with fail
        refine (HNil.out _).mono ?_
        rintro e w7 ⟨rfl, hb7⟩
        have hU7 := hU6.step hb7
        clear hU6 hb7
        go_wp2_with fail
        refine (HKa.out _ _ _ (RdR.own (by have h := hU7.own; rw [show l.length + 1 = (l ++ [(false, (⟨#[42, 42]⟩ : ByteArray))]).length from by simp] at h; simpa using h))).mono ?_
        rintro e w8 ⟨rfl, hb8⟩
        have hU8 := hU7.step hb8
        clear hU7 hb8
        cases b with
        | true =>
          go_wp2_with fail
          refine (HKl.out _ hU8.rd).mono ?_
          rintro e w9 ⟨rfl, hb9⟩
          have hU9 := hU8.step hb9
          have HBf := hide (HBz.out.trans (hU9.below.mono HBz.out.size))
          clear hU8 hb9 hU9
          go_wp2_with fail
          exact bodyPost_ret (results_tmp rfl _ _ _) rfl ⟨by simp, HBf.out⟩
        | false =>
          have HBf := hide (HBz.out.trans (hU8.below.mono HBz.out.size))
          clear hU8
          go_wp2_with fail
          exact bodyPost_ret (results_tmp rfl _ _ _) rfl ⟨by simp, HBf.out⟩
      | succ g0 =>
        have hii : (i : Int) < l.length := by omega
        obtain ⟨r, hrr⟩ : ∃ r, l[i]? = some r := ⟨_, List.getElem?_eq_getElem (by omega)⟩
        obtain ⟨ad, rfl, hlt, c0, c1⟩ := hUr.rd i r hrr
        obtain ⟨M, hM⟩ : ∃ M, M = matchesL (toL r.2) (toL p) false := ⟨_, rfl⟩
        have HM := hide (fun W => refMatches_any r.1 false r.2 p W (HF.out i r hrr) (by omega))
        rw [← hM] at HM
        have HT := hide (show ((rulesL l).take (i + 1)).any (fun r => matchesL r.2 (toL p) false) = (b || M) by
          have e1 : (rulesL l)[i]? = some (r.1, toL r.2) := by unfold rulesL; rw [List.getElem?_map, hrr]; rfl
          obtain ⟨h1, h2⟩ := List.getElem?_eq_some_iff.1 e1
          rw [List.take_succ_eq_append_getElem h1, h2, List.any_append, ← HB.out, List.any_cons, ← hM]
          simp)
        have hiw : IntKind.i64.wrap ((i : Int) + 1) = ((i + 1 : Nat) : Int) := by rw [IntWalk.i64_in _ (by omega)]; rfl
        clear hM hrr HB
        cases b with
        | true =>
          go_wp2_with fail
          go_roundg g0
          case rel => exact ⟨i + 1, true, rfl, rfl, by omega, hide (by rw [HT.out]; rfl), hUr⟩
          case measure => omega
        | false =>
          go_wp2_with fail
          refine (HM.out _).mono ?_
          rintro e w5 ⟨rfl, hb5⟩
          have hU5 := hUr.step hb5
          clear hUr hb5 c0 c1
          go_wp2_with fail
          go_roundg g0
          case rel => exact ⟨i + 1, M, rfl, rfl, by omega, hide (by rw [HT.out]; simp), hU5⟩
          case measure => omega
  · go_enter Tryd.func5, Tryd.ntmps5
    go_wp2_with fail
    refine (HS.out).mono ?_
    rintro e w1 ⟨rfl, rfl⟩
    go_wp2_with fail
    refine (HRt.out _).mono ?_
    rintro e w2 ⟨rfl, hb2⟩
    have hne := HNE.out
    go_wp2_with fail
    refine (HRx.out _).mono ?_
    rintro e w3 ⟨rfl, hb3⟩
    have hR3 := (hR.step hb2).step hb3
    have hB3 := hb2.trans (hb3.mono hb2.size)
    clear hR hb2 hb3
    go_wp2_with fail
    refine (HSp.out _ hR3).mono ?_
    rintro e w4 ⟨rfl, hb4⟩
    have hR4 := hR3.step hb4
    have hB4 := hB3.trans (hb4.mono hB3.size)
    clear hR3 hB3 hb4
    go_wp2_with fail
    refine (HS1.out _ hR4).mono ?_
    rintro e w5 ⟨rfl, hb5⟩
    have hR5 := hR4.step hb5
    have hB5 := hB4.trans (hb5.mono hB4.size)
    clear hR4 hB4 hb5
    go_wp2_with fail
    refine (HS0.out _ hR5).mono ?_
    rintro e wz ⟨rfl, hb6⟩
    have hRz := hR5.step hb6
    have hBz := hB5.trans (hb6.mono hB5.size)
    clear hR5 hB5 hb6 hne
    have hne := HNE.out
    have hO0 := World.ownsRow_lit (base := wz.heap.size) (e := 28) (size := 2) wz #[] 0 (Nat.le_refl _) (by decide) rfl
    have hB0 : Below wz.heap.size wz (wz.alloc (.cells #[] 28)) := (Below.refl _ wz).alloc (Nat.le_refl _) _
    have hR0 := (hRz.below hB0 (Nat.le_refl _))
    clear HRx HS HRt HSp HS1 HS0
    go_wp2_with (at_builtin; refine wpList_append_rules rfl _ _ rfl wz.heap.size _ 0 [] rfl hO0 A _ c _ l rfl rfl hR0 HN.out (by unfold maxLen; omega) (by omega) (by simp) ?_)
    intro v3 w3 hO3 hg3
    have hB3 := hB0.grown hg3 hB0.size (fun r e => (hO0.lt r e).1)
    obtain ⟨A3, c3, rfl⟩ := ownsRow_slice hO3
    clear hO0 hB0 hR0 hg3
    go_wp2_with (at_builtin; refine wpList_append_own _ rfl _ _ 22 rfl wz.heap.size 28 i0 _ 2 24 Tryd.underlying22 hi hz0 hz1 hz2 rfl (by decide) _ _ _ rfl (hO3.alloc _) ⟨w3.heap.size, 0, none⟩ 1 1 [.bool false, .string ⟨#[42, 42]⟩] rfl rfl (cells_new1 _ _ _ _) (by simp [Value.oneCell']) (by unfold maxLen; omega) (by omega) (by have := hB3.size; simp; omega) ?_)
    intro v4 w4 hO4 hg4 hn4
    have hB4 := (hB3.alloc hB3.size _).grown hg4 (by have := hB3.size; simp; omega) (fun r e => (hO3.lt r e).1)
    obtain ⟨g4, c4, rfl⟩ := ownsRow_succ hO4
    have hU : UI wz A l (.slice (some ⟨g4, 0, none⟩) (l.length + 1) c4) w4 := ⟨hB4, by rw [cellsR_snoc]; exact hO4, (hRz.below hB4 (Nat.le_refl _)).mono hB4.size⟩
    have HBz := hide hBz
    clear hO3 hB3 hO4 hg4 hn4 hB4 hRz hBz
    go_wp2_with fail
    go_loopg [9, 10] l.length (fun gk nv iv wr => ∃ (i : Nat) (b : Bool), iv = .int .i64 i ∧ nv = .bool b ∧ i + gk = l.length ∧ Hid (b = ((rulesL l).take i).any (fun r => matchesL r.2 (toL p) false)) ∧ UI wz A l (.slice (some ⟨g4, 0, none⟩) (l.length + 1) c4) wr)
    case atStart => exact ⟨0, false, rfl, rfl, by omega, hide (by simp), hU⟩
    case round =>
      obtain ⟨i, b, rfl, rfl, hig, HB, hUr⟩ := hrel
      clear hU
      cases gk with
      | zero =>
        obtain rfl : i = l.length := by omega
        have hb : b = nm := by rw [HB.out, HNM.out, List.take_of_length_le (by simp [rulesL])]
        subst hb
        clear HB hig
        go_wp2_with fail
        refine (HA.out _).mono ?_
        rintro e w6 ⟨rfl, hb6⟩
        have hU6 := hUr.step hb6
        clear hUr hb6
        go_wp2_with fail
        refine (HNil.out _).mono ?_
        rintro e w7 ⟨rfl, hb7⟩
        have hU7 := hU6.step hb7
        clear hU6 hb7
        go_wp2_with fail
        refine (HKa.out _ _ _ (RdR.own (by have h := hU7.own; rw [show l.length + 1 = (l ++ [(false, (⟨#[42, 42]⟩ : ByteArray))]).length from by simp] at h; simpa using h))).mono ?_
        rintro e w8 ⟨rfl, hb8⟩
        have hU8 := hU7.step hb8
        clear hU7 hb8
        cases b with
        | true =>
          go_wp2_with fail
          refine (HKl.out _ hU8.rd).mono ?_
          rintro e w9 ⟨rfl, hb9⟩
          have hU9 := hU8.step hb9
          have HBf := hide (HBz.out.trans (hU9.below.mono HBz.out.size))
          clear hU8 hb9 hU9
          go_wp2_with fail
          exact bodyPost_ret (results_tmp rfl _ _ _) rfl ⟨by simp, HBf.out⟩
        | false =>
          have HBf := hide (HBz.out.trans (hU8.below.mono HBz.out.size))
          clear hU8
          go_wp2_with fail
          exact bodyPost_ret (results_tmp rfl _ _ _) rfl ⟨by simp, HBf.out⟩
      | succ g0 =>
        have hii : (i : Int) < l.length := by omega
        obtain ⟨r, hrr⟩ : ∃ r, l[i]? = some r := ⟨_, List.getElem?_eq_getElem (by omega)⟩
        obtain ⟨ad, rfl, hlt, c0, c1⟩ := hUr.rd i r hrr
        obtain ⟨M, hM⟩ : ∃ M, M = matchesL (toL r.2) (toL p) false := ⟨_, rfl⟩
        have HM := hide (fun W => refMatches_any r.1 false r.2 p W (HF.out i r hrr) (by omega))
        rw [← hM] at HM
        have HT := hide (show ((rulesL l).take (i + 1)).any (fun r => matchesL r.2 (toL p) false) = (b || M) by
          have e1 : (rulesL l)[i]? = some (r.1, toL r.2) := by unfold rulesL; rw [List.getElem?_map, hrr]; rfl
          obtain ⟨h1, h2⟩ := List.getElem?_eq_some_iff.1 e1
          rw [List.take_succ_eq_append_getElem h1, h2, List.any_append, ← HB.out, List.any_cons, ← hM]
          simp)
        have hiw : IntKind.i64.wrap ((i : Int) + 1) = ((i + 1 : Nat) : Int) := by rw [IntWalk.i64_in _ (by omega)]; rfl
        clear hM hrr HB
        cases b with
        | true =>
          go_wp2_with fail
          go_roundg g0
          case rel => exact ⟨i + 1, true, rfl, rfl, by omega, hide (by rw [HT.out]; rfl), hUr⟩
          case measure => omega
        | false =>
          go_wp2_with fail
          refine (HM.out _).mono ?_
          rintro e w5 ⟨rfl, hb5⟩
          have hU5 := hUr.step hb5
          clear hUr hb5 c0 c1
          go_wp2_with fail
          go_roundg g0
          case rel => exact ⟨i + 1, M, rfl, rfl, by omega, hide (by rw [HT.out]; simp), hU5⟩
          case measure => omega
theorem ruleUnder_law (A : Option Addr) (l : List (Bool × ByteArray)) (c : Nat) (p q : ByteArray) (w : World) (hR : RdR w w.heap.size A l) (hnil : A = none → c = 0) :
    Calls Tryd.prog 5 #[.slice A l.length c, .string p, .string q] w fun e w' => e = .returned (.bool true) ∧ Below w.heap.size w w' := by
  by_cases h : (p.size : Int) ≤ 100 ∧ smallL l = true ∧ (q.size : Int) ≤ 100 ∧ rightL (toL p) = true ∧ p.toList.isEmpty = false
  · obtain ⟨h1, h2, h3, h4, h5⟩ := h
    exact under_main A l c p q w hR hnil h2 (by omega) (by omega) h4 h5
  · refine under_awake A l c p q w hR fun h1 h2 h3 => ?_
    cases h4 : rightL (toL p) with
    | false => exact .inl rfl
    | true =>
      right
      cases h5 : p.toList.isEmpty with
      | true => rfl
      | false => exact absurd ⟨h1, h2, h3, h4, h5⟩ h
end Go.Proofs.YthlalmehcpionaaDoor
