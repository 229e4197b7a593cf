/-
  The reference's Parse: its parts say of each byte what the pattern's own parts say.
-/
import Derived.Test.YteoafohebgfjdaaGreatDoorRefMembers
namespace Go.Proofs.YteoafohebgfjdaaGreatDoor
open Go.RowKit
set_option maxRecDepth 100000

section
variable {s : ByteArray} {k : Nat} (h : k < s.size)
include h
theorem fo_stars (h1 : (s[k].toNat : Int) = 42) (h2 : k + 1 < s.size) (h3 : (s[k + 1].toNat : Int) = 42) : firstOf (s.data.toList.drop k) = some ((true, spanP 0 256), 2) := by
  rw [drop_cons s k h, drop_cons s (k + 1) h2, show s[k] = 42 from u8_eq h1, show s[k + 1] = 42 from u8_eq h3]
  rfl
theorem fo_star (h1 : (s[k].toNat : Int) = 42) (h3 : ∀ h2 : k + 1 < s.size, (s[k + 1].toNat : Int) ≠ 42) : firstOf (s.data.toList.drop k) = some ((true, inNameP), 1) := by
  rw [drop_cons s k h, show s[k] = 42 from u8_eq h1]
  have hp : Lib.hasPrefix ((42 : UInt8) :: s.data.toList.drop (k + 1)) [42, 42] = false := by
    by_cases h2 : k + 1 < s.size
    · have e : (s[k + 1] == 42) = false := u8_ne (h3 h2)
      have e2 : ((42 : UInt8) == s[k + 1]) = false := by
        rw [beq_eq_false_iff_ne] at e ⊢
        exact fun h => e h.symm
      rw [drop_cons s (k + 1) h2]
      show ((42 : UInt8) == 42 && ((42 == s[k + 1]) && _)) = false
      rw [e2]; rfl
    · rw [List.drop_of_length_le (by simp; omega)]; rfl
  unfold firstOf
  simp only [hp]
  rfl
theorem fo_any (h1 : (s[k].toNat : Int) = 63) : firstOf (s.data.toList.drop k) = some ((false, inNameP), 1) := by
  rw [drop_cons s k h, show s[k] = 63 from u8_eq h1]; rfl
theorem fo_class (h1 : (s[k].toNat : Int) = 91) : firstOf (s.data.toList.drop k) = classOf (s.data.toList.drop k) := by
  rw [drop_cons s k h, show s[k] = 91 from u8_eq h1]; rfl
theorem fo_bare (h1 : (s[k].toNat : Int) = 92) (h2 : ¬ k + 1 < s.size) : firstOf (s.data.toList.drop k) = none := by
  rw [drop_cons s k h, show s[k] = 92 from u8_eq h1, List.drop_of_length_le (by simp; omega)]; rfl
theorem fo_esc (h1 : (s[k].toNat : Int) = 92) (h2 : k + 1 < s.size) : firstOf (s.data.toList.drop k) = some ((false, spanP s[k + 1].toNat (s[k + 1].toNat + 1)), 2) := by
  rw [drop_cons s k h, show s[k] = 92 from u8_eq h1, drop_cons s (k + 1) h2]; rfl
theorem fo_one (h1 : (s[k].toNat : Int) ≠ 42) (h2 : (s[k].toNat : Int) ≠ 63) (h3 : (s[k].toNat : Int) ≠ 91) (h4 : (s[k].toNat : Int) ≠ 92) : firstOf (s.data.toList.drop k) = some ((false, spanP s[k].toNat (s[k].toNat + 1)), 1) := by
  rw [drop_cons s k h]
  have hp : Lib.hasPrefix (s[k] :: s.data.toList.drop (k + 1)) [42, 42] = false := by
    have e : (s[k] == 42) = false := u8_ne h1
    have e2 : ((42 : UInt8) == s[k]) = false := by
      rw [beq_eq_false_iff_ne] at e ⊢
      exact fun h => e h.symm
    show ((42 == s[k]) && _) = false
    rw [e2]; rfl
  unfold firstOf
  simp only [hp, u8_ne (b := 42) h1, u8_ne (b := 63) h2, u8_ne (b := 91) h3, u8_ne (b := 92) h4]
  rfl
end

/-- A part that is kept: its set lies at an address. -/
structure KP where
  p : RPart
  A : Option Addr
  c : Nat
def KP.four (t : KP) : List Value := [.int .i64 t.p.many, .slice t.A t.p.ins.length t.c, .bool t.p.no, .bool t.p.any]
def cellsK (l : List KP) : List Value := l.flatMap KP.four
theorem cellsK_len : ∀ l : List KP, (cellsK l).length = l.length * 4
  | [] => rfl
  | t :: l => by
    show (t.four ++ cellsK l).length = _
    rw [List.length_append, cellsK_len l]
    simp [KP.four]; omega
theorem cellsK_get : ∀ (l : List KP) (k j : Nat) (t : KP) (v : Value), l[k]? = some t → t.four[j]? = some v → (cellsK l)[k * 4 + j]? = some v
  | [], k, j, t, v, h, _ => by simp at h
  | u :: l, 0, j, t, v, h, hv => by
    simp at h
    subst h
    show (u.four ++ cellsK l)[0 * 4 + j]? = _
    have hj := (List.getElem?_eq_some_iff.1 hv).1
    rw [Nat.zero_mul, Nat.zero_add, List.getElem?_append_left hj]; exact hv
  | u :: l, k + 1, j, t, v, h, hv => by
    show (u.four ++ cellsK l)[(k + 1) * 4 + j]? = _
    have h4 : u.four.length = 4 := rfl
    rw [List.getElem?_append_right (by omega), h4, show (k + 1) * 4 + j - 4 = k * 4 + j by omega]
    exact cellsK_get l k j t v (by simpa using h) hv
theorem cell_block {A B : World} {p : Addr} (h : B.heap[p.block]? = A.heap[p.block]?) : B.cell? p = A.cell? p := by unfold World.cell?; rw [h]
/-- A kept part's set lies there, in a block of bytes. -/
def SetAt (w : World) (t : KP) : Prop := RdB w w.heap.size t.A t.p.ins ∧ t.p.ins.length ≤ 100000 ∧ ∀ ad, t.A = some ad → ∃ cs fr, w.heap[ad.block]? = some (.cells cs 5 fr)
theorem SetAt.keep {w w' : World} {t : KP} (h : SetAt w t) (hs : w.heap.size ≤ w'.heap.size) (hk : ∀ ad, t.A = some ad → w'.heap[ad.block]? = w.heap[ad.block]?) : SetAt w' t := by
  obtain ⟨h1, h2, h3⟩ := h
  refine ⟨fun k x hx => ?_, h2, fun ad e => by rw [hk ad e]; exact h3 ad e⟩
  obtain ⟨ad, e, hb, hc⟩ := h1 k x hx
  exact ⟨ad, e, by omega, (cell_block (by rw [add_block]; exact hk ad e)).trans hc⟩
theorem SetAt.below {w w' : World} {t : KP} (h : SetAt w t) (hb : Below w.heap.size w w') : SetAt w' t :=
  h.keep hb.size fun ad e => by
    obtain ⟨cs, fr, hh⟩ := h.2.2 ad e
    exact hb.block _ (Array.getElem?_eq_some_iff.1 hh).1
theorem SetAt.own {w : World} {X n c : Nat} {A : Option Addr} {p : RPart} (h : w.ownsRow X 5 1 (.slice A n c) n (p.ins.map byteV)) (hl : p.ins.length ≤ 100000) : SetAt w ⟨p, A, c⟩ := by
  refine ⟨RdB.own h, hl, fun ad e => ?_⟩
  have e : A = some ad := e
  subst e
  rcases h.2 with ⟨hv, _⟩ | ⟨g, cap, cur, hv, _, hg, _⟩
  · cases hv
  · injection hv with hA
    injection hA with hA
    subst hA
    exact ⟨_, _, hg⟩
theorem SetAt.nil (w : World) (p : RPart) (h : p.ins = []) : SetAt w ⟨p, none, 0⟩ := by
  refine ⟨?_, by simp [h], fun ad e => by cases e⟩
  show RdB w w.heap.size none p.ins
  rw [h]; exact RdB.nil _ _ _
theorem SetAt.one (w : World) (x : UInt8) (many : Int) (no any : Bool) : SetAt (w.alloc (.cells #[.int .u8 x.toNat] 5)) ⟨⟨many, [x], no, any⟩, some ⟨w.heap.size, 0, none⟩, 1⟩ := by
  refine ⟨fun k y hy => ?_, by simp, fun ad e => ?_⟩
  · cases k with
    | zero =>
      simp at hy
      subst hy
      exact ⟨_, rfl, by simp, cell_of_row _ _ _ _ _ _ (World.alloc_heap_new w _)⟩
    | succ k => simp at hy
  · cases e
    exact ⟨_, _, World.alloc_heap_new w _⟩

/-- What the loop has put together. -/
structure OutP (w wr : World) (v : Value) (l : List KP) : Prop where
  below : Below w.heap.size w wr
  own : wr.ownsRow w.heap.size 121 4 v l.length (cellsK l)
  sets : ∀ t ∈ l, SetAt wr t
theorem OutP.start (w : World) : OutP w w (.slice none 0 0) [] := ⟨Below.refl _ _, World.ownsRow_nil _ _ _ _, fun _ h => by cases h⟩
theorem OutP.more {w wr w1 w' : World} {v v' : Value} {l : List KP} (h : OutP w wr v l) (t : KP) (hb : Below wr.heap.size wr w1) (ht : SetAt w1 t) (ho : w'.ownsRow w.heap.size 121 4 v' (l.length + 1) (cellsK l ++ t.four)) (hg : w1.grownBy w' v.ownBlock) : OutP w w' v' (l ++ [t]) := by
  have hO1 := own_below h.own hb
  have hz := h.below.size
  have hz1 := hb.size
  have keep : ∀ u : KP, SetAt w1 u → SetAt w' u := fun u hu => hu.keep hg.size fun ad e => by
    obtain ⟨cs, fr, hh⟩ := hu.2.2 ad e
    refine hg.block _ (Array.getElem?_eq_some_iff.1 hh).1 (fun e2 => ?_)
    rcases hO1.2 with ⟨hv, _⟩ | ⟨g, cap, cur, hv, _, hg2, _⟩
    · rw [hv] at e2; cases e2
    · rw [hv] at e2
      have e3 : g = ad.block := by injection e2 with e2; exact e2.symm
      rw [e3, hh] at hg2
      injection hg2 with hg2
      injection hg2 with _ e4
      exact absurd e4 (by decide)
  refine ⟨(h.below.trans (hb.mono hz)).grown hg (by omega) (fun r e => (h.own.lt r e).1), ?_, fun u hu => ?_⟩
  · rw [List.length_append]
    have e : cellsK (l ++ [t]) = cellsK l ++ t.four := by unfold cellsK; simp
    rw [e]; exact ho
  · rcases List.mem_append.1 hu with hu | hu
    · exact keep u ((h.sets u hu).below hb)
    · rw [List.mem_singleton.1 hu]; exact keep t ht
theorem add_add (g a b : Nat) : ((⟨g, 0, none⟩ : Addr).add a).add b = (⟨g, 0, none⟩ : Addr).add (a + b) := by
  unfold Addr.add
  split <;> split <;> (try split) <;> simp_all
theorem OutP.rd {w wr : World} {l : List KP} {A : Option Addr} {n c : Nat} (h : OutP w wr (.slice A n c) l) : RdP wr wr.heap.size A (l.map KP.p) := by
  intro k p hp
  rw [List.getElem?_map, Option.map_eq_some_iff] at hp
  obtain ⟨t, ht, rfl⟩ := hp
  obtain ⟨r1, r2, _⟩ := h.sets t (List.mem_of_getElem? ht)
  rcases h.own.2 with ⟨hv, h0⟩ | ⟨g, cap, cur, hv, _, hg, _⟩
  · have : l = [] := List.length_eq_zero_iff.1 h0
    rw [this] at ht; simp at ht
  · injection hv with hA
    subst hA
    refine ⟨_, t.A, t.c, rfl, (Array.getElem?_eq_some_iff.1 hg).1, r1, r2, fun j v hv => ?_⟩
    rw [add_add]
    exact h.own.cells (g := g) rfl _ _ (cellsK_get l k j t v ht (by simpa [KP.four] using hv))
theorem cells_new4 (w : World) (a b c d : Value) (T : TypeId) (j : Nat) (u : Value) (h : [a, b, c, d][j]? = some u) : (w.alloc (.cells #[a, b, c, d] T)).cell? ((⟨w.heap.size, 0, none⟩ : Addr).add j) = some u := by
  have e : ((⟨w.heap.size, 0, none⟩ : Addr).add j) = ⟨w.heap.size, j, none⟩ := by unfold Addr.add; split <;> simp_all
  rw [e]
  exact (cell_of_row _ _ _ _ _ _ (World.alloc_heap_new w _)).trans (by rw [← h]; simp)

/-- What the reference's Parse answers. -/
def RefP (s : ByteArray) (w : World) (e : Ending) (w' : World) : Prop :=
  Below w.heap.size w w' ∧ if 64 < s.size then e = .returned (.tuple #[.slice none 0 0, .int .i64 5]) else match parseOf (toL s) with
    | none => e = .returned (.tuple #[.slice none 0 0, .int .i64 3])
    | some g => ∃ (A : Option Addr) (l : List RPart) (c : Nat), e = .returned (.tuple #[.slice A l.length c, .int .i64 0]) ∧ RdP w' w'.heap.size A l ∧ SameL (l.map gOf) g ∧ l.length ≤ 64
theorem info_part : (Tryz.prog.info? 121).map (fun i => (i.zero, i.size, i.bytes)) = some (some (.agg #[.int .i64 0, .slice none 0 0, .bool false, .bool false]), 4, 40) := by kernel_rfl
theorem cells_new4' (w : World) (o : Obj) (a b c d : Value) (T : TypeId) (j : Nat) (u : Value) (h : [a, b, c, d][j]? = some u) : ((w.alloc o).alloc (.cells #[a, b, c, d] T)).cell? ((⟨w.heap.size + 1, 0, none⟩ : Addr).add j) = some u := by
  have h2 := cells_new4 (w.alloc o) a b c d T j u h
  rwa [World.size_alloc] at h2

set_option maxHeartbeats 16000000 in
theorem refParse_any (s : ByteArray) (w : World) (hs : (s.size : Int) ≤ 1000000) : Calls Tryz.prog 91 #[.string s] w (RefP s w) := by
  obtain ⟨i0, hi, hz0, hz1, hz2⟩ := info_parts info_part
  by_cases h64 : (64 : Int) < s.size
  · have HN := hide (show ∀ e w', Below w.heap.size w w' → e = .returned (.tuple #[.slice none 0 0, .int .i64 5]) → RefP s w e w' from fun e w' h1 h2 => ⟨h1, by rw [if_pos (by omega)]; exact h2⟩)
    go_enter Tryz.func91, Tryz.ntmps91
    go_wp2_with fail
    exact bodyPost_ret (v := .tuple #[.slice none 0 0, .int .i64 5]) (by simp [results, Tryz.results91, go_sem]) rfl (HN.out _ _ (Below.refl _ _) rfl)
  · obtain ⟨R, hR⟩ : ∃ R, R = parseOf (toL s) := ⟨_, rfl⟩
    have HN := hide (show R = none → ∀ e w', Below w.heap.size w w' → e = .returned (.tuple #[.slice none 0 0, .int .i64 3]) → RefP s w e w' from
      fun h e w' h1 h2 => ⟨h1, by rw [if_neg (by omega), ← hR, h]; exact h2⟩)
    have HY := hide (show ∀ (gs : List GPart), R = some gs → ∀ e w' (l : List KP) A c, OutP w w' (.slice A l.length c) l → SameL (l.map (fun t => gOf t.p)) gs → l.length ≤ 64 → e = .returned (.tuple #[.slice A l.length c, .int .i64 0]) → RefP s w e w' from
      fun gs h e w' l A c h1 h2 h3 h4 => ⟨h1.below, by
        rw [if_neg (by omega), ← hR, h]
        exact ⟨A, l.map KP.p, c, by rw [List.length_map]; exact h4, h1.rd, by rw [List.map_map]; exact h2, by rw [List.length_map]; exact h3⟩⟩)
    have HR := hide hR
    clear hR
    go_enter Tryz.func91, Tryz.ntmps91
    go_wp2_with fail
    go_loopg [4, 5] s.size (fun gk v a wr => ∃ (k : Nat) (A : Option Addr) (c : Nat) (l : List KP) (gs : List GPart), v = .slice A l.length c ∧ a = .int .i64 k ∧ k + gk = s.size ∧ l.length ≤ k ∧ Hid (SameL (l.map (fun t => gOf t.p)) gs) ∧ Hid ((parseOf (s.data.toList.drop k)).map (gs ++ ·) = R) ∧ OutP w wr (.slice A l.length c) l)
    case atStart => exact ⟨0, none, 0, [], [], rfl, rfl, by omega, Nat.le_refl _, hide trivial, hide (by rw [HR.out, List.drop_zero]; show Option.map (fun x => [] ++ x) _ = parseOf s.data.toList; simp), OutP.start w⟩
    case round =>
      obtain ⟨k, A, c, l, gs, rfl, rfl, hkg, hlk, HG, HP, hP⟩ := hrel
      have hO := hP.own
      have hzw := hP.below.size
      cases gk with
      | zero =>
        obtain rfl : k = s.size := by omega
        have HE := hide (show R = some gs by rw [← HP.out, List.drop_of_length_le (by simp), parseOf_nil]; simp)
        have HL := hide (show l.length ≤ 64 by omega)
        clear HP hkg hlk
        go_wp2_with fail
        exact bodyPost_ret (v := .tuple #[.slice A l.length c, .int .i64 0]) (by simp [results, Tryz.results91, go_sem]) rfl (HY.out gs HE.out _ _ l A c hP HG.out HL.out rfl)
      | succ g0 =>
        have hk' : k < s.size := by omega
        have hki : (k : Int) < s.size := by omega
        obtain ⟨x, hx⟩ : ∃ x, s[k]'hk' = x := ⟨_, rfl⟩
        have HX := hide hx
        have hne : s.data.toList.drop k ≠ [] := by rw [drop_cons s k hk']; simp
        have HStep := hide (show ∀ gp n, firstOf (s.data.toList.drop k) = some (gp, n) → Hid ((parseOf (s.data.toList.drop (k + n))).map ((gs ++ [gp]) ++ ·) = R) from fun gp n h => by
          have h2 := HP.out
          rw [parseOf_step h, List.drop_drop] at h2
          show _ = R
          rw [← h2]
          cases parseOf (s.data.toList.drop (k + n)) <;> simp)
        have HBad := hide (show firstOf (s.data.toList.drop k) = none → R = none from fun h => by
          rw [← HP.out, parseOf_bad hne h]; rfl)
        clear HP hne
        obtain ⟨k1, hk1⟩ : ∃ k1, k1 = k + 1 := ⟨_, rfl⟩
        have k1i : (k : Int) + 1 = (k1 : Int) := by omega
        have k1w : IntKind.i64.wrap (k1 : Int) = (k1 : Int) := IntWalk.i64_in _ (by omega)
        have k2w : IntKind.i64.wrap ((k : Int) + 2) = ((k + 2 : Nat) : Int) := by rw [IntWalk.i64_in _ (by omega)]; rfl
        by_cases c42 : (x.toNat : Int) = 42
        · have b42 : ((x.toNat : Int) == 42) = true := by rw [c42]; rfl
          have c42' : (s[k].toNat : Int) = 42 := by rw [hx]; exact c42
          by_cases h1 : k1 < s.size
          · have h1i : (k1 : Int) < s.size := by omega
            obtain ⟨y, hy⟩ : ∃ y, s[k1]'h1 = y := ⟨_, rfl⟩
            have hy' : s[k + 1]'(by omega) = y := by rw [← hy]; simp only [hk1]
            by_cases d42 : (y.toNat : Int) = 42
            · have e42 : ((y.toNat : Int) == 42) = true := by rw [d42]; rfl
              have HS := HStep.out _ _ (fo_stars hk' c42' (by omega) (by rw [hy']; exact d42))
              clear hk1 c42' d42 c42 hy'
              go_wp2_with (at_builtin; refine wpList_append_own _ rfl _ _ 103 rfl w.heap.size 121 i0 _ 4 40 Tryz.underlying103 hi hz0 hz1 hz2 rfl (by decide) _ _ _ rfl (hO.alloc _) ⟨wr.heap.size, 0, none⟩ 1 1 [.int .i64 2, .slice none 0 0, .bool false, .bool false] rfl rfl (cells_new4 _ _ _ _ _ _) (by simp [Value.oneCell']) (by unfold maxLen; omega) (by omega) (by simp; omega) ?_)
              intro v' w' hO' hg hnil
              obtain ⟨g', cap', rfl⟩ := ownsRow_succ hO'
              have H5 := hide (hP.more ⟨⟨2, [], false, false⟩, none, 0⟩ ((Below.refl _ wr).alloc (Nat.le_refl _) _) (SetAt.nil _ _ rfl) hO' hg)
              clear hO' hg hnil
              go_wp2_with fail
              go_roundg (g0 + 1 - 2)
              case rel => exact ⟨k + 2, some ⟨g', 0, none⟩, cap', l ++ [⟨⟨2, [], false, false⟩, none, 0⟩], gs ++ [(true, spanP 0 256)], by rw [List.length_append]; rfl, rfl, by omega, by simp; omega, hide (by rw [List.map_append]; exact HG.out.app ⟨stars_same, trivial⟩), HS, by rw [List.length_append]; exact H5.out⟩
              case measure => omega
            · have e42 : ((y.toNat : Int) == 42) = false := beq_eq_false_iff_ne.2 d42
              have HS := HStep.out _ _ (fo_star hk' c42' (fun h2 => by rw [hy']; exact d42))
              clear hk1 c42' d42 c42 hy'
              go_wp2_with (at_builtin; refine wpList_append_own _ rfl _ _ 103 rfl w.heap.size 121 i0 _ 4 40 Tryz.underlying103 hi hz0 hz1 hz2 rfl (by decide) _ _ _ rfl (hO.alloc _) ⟨wr.heap.size, 0, none⟩ 1 1 [.int .i64 1, .slice none 0 0, .bool false, .bool false] rfl rfl (cells_new4 _ _ _ _ _ _) (by simp [Value.oneCell']) (by unfold maxLen; omega) (by omega) (by simp; omega) ?_)
              intro v' w' hO' hg hnil
              obtain ⟨g', cap', rfl⟩ := ownsRow_succ hO'
              have H5 := hide (hP.more ⟨⟨1, [], false, false⟩, none, 0⟩ ((Below.refl _ wr).alloc (Nat.le_refl _) _) (SetAt.nil _ _ rfl) hO' hg)
              clear hO' hg hnil
              go_wp2_with fail
              go_roundg (g0 + 1 - 1)
              case rel => exact ⟨k + 1, some ⟨g', 0, none⟩, cap', l ++ [⟨⟨1, [], false, false⟩, none, 0⟩], gs ++ [(true, inNameP)], by rw [List.length_append]; rfl, congrArg (Value.int .i64) (show (k1 : Int) = ((k + 1 : Nat) : Int) by omega), by omega, by simp; omega, hide (by rw [List.map_append]; exact HG.out.app ⟨star_same, trivial⟩), HS, by rw [List.length_append]; exact H5.out⟩
              case measure => omega
          · have h1i : ¬ (k1 : Int) < s.size := by omega
            have HS := HStep.out _ _ (fo_star hk' c42' (fun h2 => by omega))
            clear hk1 c42' c42
            go_wp2_with (at_builtin; refine wpList_append_own _ rfl _ _ 103 rfl w.heap.size 121 i0 _ 4 40 Tryz.underlying103 hi hz0 hz1 hz2 rfl (by decide) _ _ _ rfl (hO.alloc _) ⟨wr.heap.size, 0, none⟩ 1 1 [.int .i64 1, .slice none 0 0, .bool false, .bool false] rfl rfl (cells_new4 _ _ _ _ _ _) (by simp [Value.oneCell']) (by unfold maxLen; omega) (by omega) (by simp; omega) ?_)
            intro v' w' hO' hg hnil
            obtain ⟨g', cap', rfl⟩ := ownsRow_succ hO'
            have H5 := hide (hP.more ⟨⟨1, [], false, false⟩, none, 0⟩ ((Below.refl _ wr).alloc (Nat.le_refl _) _) (SetAt.nil _ _ rfl) hO' hg)
            clear hO' hg hnil
            go_wp2_with fail
            go_roundg (g0 + 1 - 1)
            case rel => exact ⟨k + 1, some ⟨g', 0, none⟩, cap', l ++ [⟨⟨1, [], false, false⟩, none, 0⟩], gs ++ [(true, inNameP)], by rw [List.length_append]; rfl, congrArg (Value.int .i64) (show (k1 : Int) = ((k + 1 : Nat) : Int) by omega), by omega, by simp; omega, hide (by rw [List.map_append]; exact HG.out.app ⟨star_same, trivial⟩), HS, by rw [List.length_append]; exact H5.out⟩
            case measure => omega
        · have b42 : ((x.toNat : Int) == 42) = false := beq_eq_false_iff_ne.2 c42
          by_cases c63 : (x.toNat : Int) = 63
          · have b63 : ((x.toNat : Int) == 63) = true := by rw [c63]; rfl
            have HS := HStep.out _ _ (fo_any hk' (by rw [hx]; exact c63))
            clear hk1 c63 c42
            go_wp2_with (at_builtin; refine wpList_append_own _ rfl _ _ 103 rfl w.heap.size 121 i0 _ 4 40 Tryz.underlying103 hi hz0 hz1 hz2 rfl (by decide) _ _ _ rfl (hO.alloc _) ⟨wr.heap.size, 0, none⟩ 1 1 [.int .i64 0, .slice none 0 0, .bool false, .bool true] rfl rfl (cells_new4 _ _ _ _ _ _) (by simp [Value.oneCell']) (by unfold maxLen; omega) (by omega) (by simp; omega) ?_)
            intro v' w' hO' hg hnil
            obtain ⟨g', cap', rfl⟩ := ownsRow_succ hO'
            have H5 := hide (hP.more ⟨⟨0, [], false, true⟩, none, 0⟩ ((Below.refl _ wr).alloc (Nat.le_refl _) _) (SetAt.nil _ _ rfl) hO' hg)
            clear hO' hg hnil
            go_wp2_with fail
            go_roundg (g0 + 1 - 1)
            case rel => exact ⟨k + 1, some ⟨g', 0, none⟩, cap', l ++ [⟨⟨0, [], false, true⟩, none, 0⟩], gs ++ [(false, inNameP)], by rw [List.length_append]; rfl, congrArg (Value.int .i64) (show (k1 : Int) = ((k + 1 : Nat) : Int) by omega), by omega, by simp; omega, hide (by rw [List.map_append]; exact HG.out.app ⟨any_same, trivial⟩), HS, by rw [List.length_append]; exact H5.out⟩
            case measure => omega
          · have b63 : ((x.toNat : Int) == 63) = false := beq_eq_false_iff_ne.2 c63
            by_cases c92 : (x.toNat : Int) = 92
            · have b92 : ((x.toNat : Int) == 92) = true := by rw [c92]; rfl
              by_cases h1 : k1 < s.size
              · have h1i : (k1 : Int) < s.size := by omega
                have h1j : ¬ (s.size : Int) ≤ (k1 : Int) := by omega
                obtain ⟨y, hy⟩ : ∃ y, s[k1]'h1 = y := ⟨_, rfl⟩
                have hy' : s[k + 1]'(by omega) = y := by rw [← hy]; simp only [hk1]
                have hf := fo_esc hk' (by rw [hx]; exact c92) (by omega)
                rw [hy'] at hf
                have HS := HStep.out _ _ hf
                clear hk1 c92 c63 c42 hy' hf
                go_wp2_with (at_builtin; refine wpList_append_own _ rfl _ _ 103 rfl w.heap.size 121 i0 _ 4 40 Tryz.underlying103 hi hz0 hz1 hz2 rfl (by decide) _ _ _ rfl ((hO.alloc _).alloc _) ⟨wr.heap.size + 1, 0, none⟩ 1 1 [.int .i64 0, .slice (some ⟨wr.heap.size, 0, none⟩) 1 1, .bool false, .bool false] rfl rfl (cells_new4' _ _ _ _ _ _ _) (by simp [Value.oneCell']) (by unfold maxLen; omega) (by omega) (by simp; omega) ?_)
                intro v' w' hO' hg hnil
                obtain ⟨g', cap', rfl⟩ := ownsRow_succ hO'
                have H5 := hide (hP.more ⟨⟨0, [y], false, false⟩, some ⟨wr.heap.size, 0, none⟩, 1⟩ (((Below.refl _ wr).alloc (Nat.le_refl _) _).alloc (by simp) _) ((SetAt.one wr y 0 false false).below ((Below.refl _ _).alloc (Nat.le_refl _) _)) hO' hg)
                clear hO' hg hnil
                go_wp2_with fail
                go_roundg (g0 + 1 - 2)
                case rel => exact ⟨k + 2, some ⟨g', 0, none⟩, cap', l ++ [⟨⟨0, [y], false, false⟩, some ⟨wr.heap.size, 0, none⟩, 1⟩], gs ++ [(false, spanP y.toNat (y.toNat + 1))], by rw [List.length_append]; rfl, rfl, by omega, by simp; omega, hide (by rw [List.map_append]; exact HG.out.app ⟨single_same _, trivial⟩), HS, by rw [List.length_append]; exact H5.out⟩
                case measure => omega
              · have h1j : (s.size : Int) ≤ (k1 : Int) := by omega
                have HE := hide (HBad.out (fo_bare hk' (by rw [hx]; exact c92) (by omega)))
                clear hk1 c92 c63 c42
                go_wp2_with fail
                exact bodyPost_ret (v := .tuple #[.slice none 0 0, .int .i64 3]) (by simp [results, Tryz.results91, go_sem]) rfl (HN.out HE.out _ _ hP.below rfl)
            · have b92 : ((x.toNat : Int) == 92) = false := beq_eq_false_iff_ne.2 c92
              by_cases c91 : (x.toNat : Int) = 91
              · have b91 : ((x.toNat : Int) == 91) = true := by rw [c91]; rfl
                have b91' : ((x.toNat : Int) != 91) = false := by rw [bne, b91]; rfl
                have hm := fun W => members_any s k W hk' (by omega)
                have hf := fo_class hk' (by rw [hx]; exact c91)
                rw [← hk1] at hm
                cases hc : classOf (s.data.toList.drop k) with
                | none =>
                  have HE := hide (HBad.out (by rw [hf, hc]))
                  have HM := hide (show ∀ W, Calls Tryz.prog 103 #[.string s, .int .i64 (k1 : Nat)] W fun e w' => e = .returned (.tuple #[.agg #[.int .i64 0, .slice none 0 0, .bool false, .bool false], .int .i64 (-1)]) ∧ Below W.heap.size W w' from
                    fun W => (hm W).mono fun e w' h => by
                      unfold MemR at h
                      rw [show classOf ((toL s).drop k) = none from hc] at h
                      exact ⟨h.2, h.1⟩)
                  clear hk1 hm hf hc c91 c92 c63 c42
                  go_wp2_with (go_at_call 103; refine (HM.out _).mono ?_; rintro e w1 ⟨rfl, hb1⟩)
                  exact bodyPost_ret (v := .tuple #[.slice none 0 0, .int .i64 3]) (by simp [results, Tryz.results91, go_sem]) rfl (HN.out HE.out _ _ ((hP.below.trans (hb1.mono hzw)).alloc (by have := hb1.size; omega) _) rfl)
                | some qn =>
                  obtain ⟨q, n⟩ := qn
                  have HS := HStep.out q n (by rw [hf, hc])
                  have hn := classOf_le _ _ _ hc
                  rw [List.length_drop] at hn
                  have hn2 : k + n ≤ s.size := by have : s.data.toList.length = s.size := by simp
                                                  omega
                  have hn1 := hn.1
                  have HM := hide (show ∀ W, Calls Tryz.prog 103 #[.string s, .int .i64 (k1 : Nat)] W fun e w' => ∃ (p : RPart) (A : Option Addr) (c : Nat), e = .returned (.tuple #[.agg #[.int .i64 p.many, .slice A p.ins.length c, .bool p.no, .bool p.any], .int .i64 ((k + n : Nat) : Int)]) ∧ SameG (gOf p) q ∧ SetAt w' ⟨p, A, c⟩ ∧ Below W.heap.size W w' from
                    fun W => (hm W).mono fun e w' h => by
                      unfold MemR at h
                      rw [show classOf ((toL s).drop k) = some (q, n) from hc] at h
                      obtain ⟨hb, p, A, c, h1, h2, ⟨X, h3⟩, h4⟩ := h
                      exact ⟨p, A, c, h1, h2, SetAt.own h3 h4, hb⟩)
                  have hneg : ¬ ((k + n : Nat) : Int) < 0 := by omega
                  clear hk1 hm hf hc c91 c92 c63 c42 hn
                  go_upto_region 25 with (go_at_call 103; refine (HM.out _).mono ?_; rintro e w1 ⟨p, A2, c2, rfl, hq, hset, hb1⟩)
                  have hO1 := own_below hO hb1
                  have hzb := hb1.size
                  have HQ := hide hq
                  have HSET := hide hset
                  clear hq hset
                  go_wp2_with (at_builtin; refine wpList_append_own _ rfl _ _ 103 rfl w.heap.size 121 i0 _ 4 40 Tryz.underlying103 hi hz0 hz1 hz2 rfl (by decide) _ _ _ rfl ((hO1.alloc _).alloc _) ⟨w1.heap.size + 1, 0, none⟩ 1 1 [.int .i64 p.many, .slice A2 p.ins.length c2, .bool p.no, .bool p.any] rfl rfl (cells_new4' _ _ _ _ _ _ _) (by simp [Value.oneCell']) (by unfold maxLen; omega) (by omega) (by simp; omega) ?_)
                  intro v' w' hO' hg hnil
                  obtain ⟨g', cap', rfl⟩ := ownsRow_succ hO'
                  have H5 := hide (hP.more ⟨p, A2, c2⟩ ((hb1.alloc hzb _).alloc (by simp; omega) _) (HSET.out.below (((Below.refl _ _).alloc (Nat.le_refl _) _).alloc (by simp) _)) hO' hg)
                  clear hO' hg hnil
                  go_wp2_with fail
                  go_roundg (g0 + 1 - n)
                  case rel => exact ⟨k + n, some ⟨g', 0, none⟩, cap', l ++ [⟨p, A2, c2⟩], gs ++ [q], by rw [List.length_append]; rfl, rfl, by omega, by simp; omega, hide (by rw [List.map_append]; exact HG.out.app ⟨HQ.out, trivial⟩), HS, by rw [List.length_append]; exact H5.out⟩
                  case measure => omega
              · have b91 : ((x.toNat : Int) == 91) = false := beq_eq_false_iff_ne.2 c91
                have b91' : ((x.toNat : Int) != 91) = true := by rw [bne, b91]; rfl
                have hf := fo_one hk' (by rw [hx]; exact c42) (by rw [hx]; exact c63) (by rw [hx]; exact c91) (by rw [hx]; exact c92)
                rw [hx] at hf
                have HS := HStep.out _ _ hf
                clear hk1 c91 c92 c63 c42 hf
                go_wp2_with (at_builtin; refine wpList_append_own _ rfl _ _ 103 rfl w.heap.size 121 i0 _ 4 40 Tryz.underlying103 hi hz0 hz1 hz2 rfl (by decide) _ _ _ rfl ((hO.alloc _).alloc _) ⟨wr.heap.size + 1, 0, none⟩ 1 1 [.int .i64 0, .slice (some ⟨wr.heap.size, 0, none⟩) 1 1, .bool false, .bool false] rfl rfl (cells_new4' _ _ _ _ _ _ _) (by simp [Value.oneCell']) (by unfold maxLen; omega) (by omega) (by simp; omega) ?_)
                intro v' w' hO' hg hnil
                obtain ⟨g', cap', rfl⟩ := ownsRow_succ hO'
                have H5 := hide (hP.more ⟨⟨0, [x], false, false⟩, some ⟨wr.heap.size, 0, none⟩, 1⟩ (((Below.refl _ wr).alloc (Nat.le_refl _) _).alloc (by simp) _) ((SetAt.one wr x 0 false false).below ((Below.refl _ _).alloc (Nat.le_refl _) _)) hO' hg)
                clear hO' hg hnil
                go_wp2_with fail
                go_roundg (g0 + 1 - 1)
                case rel => exact ⟨k + 1, some ⟨g', 0, none⟩, cap', l ++ [⟨⟨0, [x], false, false⟩, some ⟨wr.heap.size, 0, none⟩, 1⟩], gs ++ [(false, spanP x.toNat (x.toNat + 1))], by rw [List.length_append]; rfl, congrArg (Value.int .i64) (show (k1 : Int) = ((k + 1 : Nat) : Int) by omega), by omega, by simp; omega, hide (by rw [List.map_append]; exact HG.out.app ⟨single_same _, trivial⟩), HS, by rw [List.length_append]; exact H5.out⟩
                case measure => omega
end Go.Proofs.YteoafohebgfjdaaGreatDoor
