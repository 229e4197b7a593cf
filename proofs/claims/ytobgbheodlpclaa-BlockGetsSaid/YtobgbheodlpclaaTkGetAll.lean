/-
  The tokens that bytes are: the program's Get, all of it.
-/
import Derived.Test.YtobgbheodlpclaaTkGet
import Derived.Test.YtobgbheodlpclaaAutoVintText
namespace Go.Proofs.Ytobgbheodlpclaa
open Go.RowKit
set_option maxRecDepth 100000

/-- The tokens that are read behind others, and the error. -/
def getF : Nat → List Tk → List UInt8 → List Tk × Nat
  | 0, o, _ => (o, 0)
  | f + 1, o, m => if m.length = 0 then (o, 0) else if (readK m).2.2 ≠ 0 then ([], (readK m).2.2) else if rightT (readK m).1 = true then getF f (o ++ [(readK m).1]) (readK m).2.1 else ([], 3)
def getT (l : List UInt8) : List Tk × Nat := getF l.length [] l
theorem numF_pos : ∀ (i a : Nat) (l : List UInt8), (numF i a l).2.2 = 0 → i < (numF i a l).2.1
  | i, a, [], h => by simp [numF] at h
  | i, a, c :: r, h => by
    by_cases hb : (i = 9 ∧ 1 < c.toNat) ∨ (0 < i ∧ c.toNat = 0)
    · rw [numF_bad _ _ _ _ hb] at h
      simp at h
    · rw [numF_good _ _ _ _ hb] at h ⊢
      split
      · simp
      · rename_i h2
        rw [if_neg h2] at h
        have := numF_pos (i + 1) _ r h
        omega
theorem readN_less (l : List UInt8) (m : Nat) (h : (readN l 0 m).2.2 = 0) : (readN l 0 m).2.1.length < l.length := by
  have hp := numF_pos 0 0 l
  have hf := (numL_facts l).2.1
  unfold readN at h ⊢
  rw [if_neg (by simp)] at h ⊢
  split at h
  · rename_i h1; exact absurd h h1
  · rename_i h1
    rw [if_neg h1]
    split at h
    · cases h
    · rename_i h2
      rw [if_neg h2]
      have h3 : 0 < (numL l).2.1 := hp (by simpa [numL] using h1)
      simp only [List.length_drop]
      omega
theorem readN_err (l : List UInt8) (e m : Nat) (h : e ≠ 0) : readN l e m = (0, l, e) := by unfold readN; rw [if_pos h]
theorem readK_less (l : List UInt8) (h : (readK l).2.2 = 0) : (readK l).2.1.length < l.length := by
  have h1 := readN_less l 4097
  unfold readK at h ⊢
  generalize readN l 0 4097 = r at h h1 ⊢
  obtain ⟨n, l1, e1⟩ := r
  simp only at h h1 ⊢
  by_cases he : e1 = 0
  · have h2 := h1 he
    split
    · exact Nat.lt_of_le_of_lt (readN_len2 _ _ _) h2
    · exact Nat.lt_of_le_of_lt (readT_len2 _ _ _) h2
  · exfalso
    split at h
    · rw [readN_err _ _ _ he] at h; exact he h
    · unfold readT textOf at h
      rw [readN_err _ _ _ he] at h
      simp only at h
      rw [if_pos he] at h
      exact he h

set_option maxHeartbeats 16000000 in
theorem getT_any (A : Option Addr) (l : List UInt8) (c : Nat) (w : World) (hR : RdB w w.heap.size A l) (hc : Caps A l.length c) (hl : l.length ≤ 1000000) :
    Calls Try.prog 41 #[.slice A l.length c] w fun e w' => (∃ v, e = .returned (.tuple #[v, .int .i64 ((getT l).2 : Nat)]) ∧ TI w 71 v (getT l).1 w') := by
  obtain ⟨i0, hi, hz0, hz1, hz2⟩ := info_parts info_tk
  obtain ⟨V, hV⟩ : ∃ V, V = getT l := ⟨_, rfl⟩
  have HV := hide (show getF l.length [] l = V by rw [hV]; rfl)
  rw [← hV]
  have HRd := hide (read_any A l c w hR hc hl)
  clear hV hR
  go_enter Try.func41, Try.ntmps41
  go_wp2_with fail
  refine HRd.out.mono ?_
  rintro en w1 ⟨⟨bR, rfl, hI, hbR⟩, hB⟩
  have HI1 := hide hI
  have HB1 := hide hB
  have hlt := hI.lt
  have HT0 := hide (show TI w1 71 (.slice none 0 0) [] w1 from ⟨Below.refl _ _, World.ownsRow_nil _ _ _ _⟩)
  clear HRd hI hB hc
  go_wp2_with fail
  go_loopg [4] l.length (fun gk ov wr => ∃ (B : Option Addr) (d : Nat) (o : List Tk) (m : List UInt8), ov = .slice B o.length d ∧ m.length ≤ gk ∧ o.length + gk ≤ l.length ∧ Hid (IsR wr bR m 0) ∧ Hid (wr.ownsRow w1.heap.size 71 3 (.slice B o.length d) o.length (cellsT o)) ∧ Hid (Below w.heap.size w wr ∧ w1.heap.size ≤ wr.heap.size) ∧ Hid (getF gk o m = V))
  case atStart => exact ⟨none, 0, [], l, rfl, Nat.le_refl _, by simp, HI1, hide HT0.out.own, hide ⟨HB1.out, Nat.le_refl _⟩, HV⟩
  case round =>
    obtain ⟨B, d, o, m, rfl, hmg, hog, HI, HO, HB, HQ⟩ := hrel
    clear HV HT0 HI1
    have HLf := hide (left_any bR 0 m wr HI.out)
    by_cases hm0 : m.length = 0
    · have HE := hide (show V = (o, 0) by
        rw [← HQ.out]
        cases gk with
        | zero => rfl
        | succ f => unfold getF; rw [if_pos hm0])
      have hL : leftN 0 m = 0 := by unfold leftN; rw [if_neg (by simp)]; exact hm0
      rw [hL] at HLf
      clear HQ
      go_wp2_with fail
      refine HLf.out.mono ?_
      rintro en w2 ⟨rfl, rfl⟩
      go_wp2_with fail
      exact bodyPost_ret (results_tmp2 rfl _ _ _) rfl ⟨.slice B o.length d, by rw [HE.out]; rfl, by rw [HE.out]; exact ⟨HB.out.1, ownsRow_lowerT HO.out HB1.out.size⟩⟩
    · cases gk with
      | zero => omega
      | succ g0 =>
        have hL : leftN 0 m = m.length := by unfold leftN; rw [if_neg (by simp)]
        rw [hL] at HLf
        have hm1 : (0 : Int) < m.length := by omega
        have hd := HQ.out
        unfold getF at hd
        rw [if_neg hm0] at hd
        have HK := hide (tokRead_any bR m wr HI.out (by omega))
        have hless := readK_less m
        have hlen := readK_len m
        generalize readK m = K at HK hd hless hlen
        obtain ⟨t, m2, e2⟩ := K
        simp only at HK hd hless hlen
        clear HQ
        go_wp2_with fail
        refine HLf.out.mono ?_
        rintro en w2 ⟨rfl, rfl⟩
        go_wp2_with fail
        refine HK.out.mono ?_
        rintro en w3 ⟨rfl, hI3, hg3, hb3⟩
        have hO3 := own_grown HO.out hg3 hlt
        have hs3 : w1.heap.size ≤ w3.heap.size := Nat.le_trans HB.out.2 hg3.size
        have hB3 := HB.out.1.grown hg3 HB.out.1.size (fun r e => by cases e; exact hbR)
        have hrow := World.alloc_heap_new w3 (Obj.cells t.cells 71)
        have HI4 := hide (hI3.keep (((Below.refl w3.heap.size w3).alloc (Nat.le_refl _) (.cells t.cells 71)).mono hI3.lt))
        have HO4 := hide (hO3.alloc (.cells t.cells 71))
        have HB4 := hide (hB3.alloc hB3.size (.cells t.cells 71))
        have hs4 : w1.heap.size ≤ (w3.alloc (.cells t.cells 71)).heap.size := by simp; omega
        have HR := hide (right_any t)
        clear HLf HK HI HO HB hI3 hg3 hb3 hO3 hB3
        obtain ⟨fr, many, data⟩ := t
        simp only [Tk.cells] at hrow HI4 HO4 HB4 hs4 HR ⊢
        go_wp2_with fail
        have k0 : (w3.alloc (.cells #[.int .i64 fr, .int .i64 many, .string data] 71)).cell? ⟨w3.heap.size, 0, none⟩ = some (.int .i64 fr) := cell_of_row _ _ _ _ _ _ hrow
        have k1 : (w3.alloc (.cells #[.int .i64 fr, .int .i64 many, .string data] 71)).cell? ⟨w3.heap.size, 1, none⟩ = some (.int .i64 many) := cell_of_row _ _ _ _ _ _ hrow
        have k2 : (w3.alloc (.cells #[.int .i64 fr, .int .i64 many, .string data] 71)).cell? ⟨w3.heap.size, 2, none⟩ = some (.string data) := cell_of_row _ _ _ _ _ _ hrow
        obtain ⟨n3, hn3⟩ : ∃ n, n = w3.heap.size := ⟨_, rfl⟩
        have hn3' : n3 < (w3.alloc (.cells #[.int .i64 fr, .int .i64 many, .string data] 71)).heap.size := by rw [hn3]; simp
        rw [← hn3] at hrow k0 k1 k2 ⊢
        generalize (w3.alloc (.cells #[.int .i64 fr, .int .i64 many, .string data] 71)) = w4 at *
        clear hn3
        refine (end_any bR e2 m2 w4 HI4.out (by omega)).mono ?_
        rintro en w5 ⟨rfl, rfl⟩
        have HLf := hide (left_any bR e2 m2 w5 HI4.out)
        by_cases he : e2 = 0
        · subst he
          rw [if_neg (by simp)] at hd
          have hl2 : leftN 0 m2 = m2.length := by unfold leftN; rw [if_neg (by simp)]
          rw [hl2] at HLf
          have hlt2 := hless rfl
          by_cases hz : m2.length = 0
          · have he2 : endN 0 m2 = 0 := by unfold endN; rw [if_neg (by simp), if_pos hz]
            rw [hz] at HLf
            rw [he2]
            clear he2 hl2 hlt2
            cases hr : rightT ⟨fr, many, data⟩ with
            | true =>
              rw [hr, if_pos rfl] at hd
              rw [hr] at HR
              have HD := hide hd
              clear hd hr hless hlen
              go_wp2_with fail
              refine HLf.out.mono ?_
              rintro en w6 ⟨rfl, rfl⟩
              go_wp2_with fail
              refine (HR.out _).mono ?_
              rintro e w6 ⟨rfl, hb6⟩
              have s6 := (hb6.block n3 hn3').trans hrow
              have j0 : w6.cell? ⟨n3, 0, none⟩ = some (.int .i64 fr) := cell_of_row _ _ _ _ _ _ s6
              have j1 : w6.cell? ⟨n3, 1, none⟩ = some (.int .i64 many) := cell_of_row _ _ _ _ _ _ s6
              have j2 : w6.cell? ⟨n3, 2, none⟩ = some (.string data) := cell_of_row _ _ _ _ _ _ s6
              have HI6 := hide (HI4.out.keep (hb6.mono HI4.out.lt))
              have hB6 := HB4.out.trans (hb6.mono HB4.out.size)
              have hO6 := own_below HO4.out hb6
              have hO7 := hO6.alloc (.cells (Tk.cells ⟨fr, many, data⟩) 71)
              have hRn := RdT.one w6 ⟨fr, many, data⟩ 71
              have hB7 := hB6.alloc hB6.size (.cells (Tk.cells ⟨fr, many, data⟩) 71)
              have hI7 := HI6.out.keep (((Below.refl w6.heap.size w6).alloc (Nat.le_refl _) (.cells (Tk.cells ⟨fr, many, data⟩) 71)).mono HI6.out.lt)
              have hsz : w1.heap.size ≤ (w6.alloc (.cells (Tk.cells ⟨fr, many, data⟩) 71)).heap.size := by have := hb6.size; simp; omega
              clear HLf HR k0 k1 k2 hrow hb6 s6 hB6 hO6 HI4 HB4 HO4
              go_wp2_with (at_builtin; go_loud (refine wpList_append_toks rfl _ _ 65 rfl w1.heap.size 71 i0 Try.underlying65 hi hz0 hz1 hz2 _ _ _ rfl hO7 (some ⟨w6.heap.size, 0, none⟩) _ 1 _ [⟨fr, many, data⟩] rfl rfl hRn (by unfold maxLen; omega) (by omega) hsz ?_))
              intro v8 w8 hO8 hg8
              have hB8 := hB7.grown hg8 hB7.size (fun r e => Nat.le_trans HB1.out.size (hO7.lt r e).1)
              have hI8 := hI7.keep ((Below.refl (bR + 1) _).grown hg8 hI7.lt (fun r e => Nat.le_trans hlt (hO7.lt r e).1))
              obtain ⟨D, g, rfl⟩ := ownsRow_slice hO8
              have hlen9 : (o ++ [(⟨fr, many, data⟩ : Tk)]).length = o.length + 1 := by simp
              have HO9 := hide (show w8.ownsRow w1.heap.size 71 3 (.slice D (o ++ [(⟨fr, many, data⟩ : Tk)]).length g) (o ++ [(⟨fr, many, data⟩ : Tk)]).length (cellsT (o ++ [⟨fr, many, data⟩])) from by rw [cellsT_app, hlen9]; exact hO8)
              have HB9 := hide (And.intro hB8 (Nat.le_trans hsz hg8.size))
              have HI9 := hide hI8
              rw [hlen9] at HO9
              clear hO7 hRn hB7 hO8 hg8 hB8 hI7 hI8 hsz j0 j1 j2 HI6
              go_wp2_with fail
              go_roundg g0
              case rel => exact ⟨D, g, o ++ [⟨fr, many, data⟩], m2, by rw [hlen9], by omega, by rw [hlen9]; omega, HI9, by rw [hlen9]; exact HO9, HB9, HD⟩
              case measure => omega
            | false =>
              rw [hr, if_neg (by decide)] at hd
              rw [hr] at HR
              have HD := hide hd.symm
              clear hd hr hless hlen
              go_wp2_with fail
              refine HLf.out.mono ?_
              rintro en w6 ⟨rfl, rfl⟩
              go_wp2_with fail
              refine (HR.out _).mono ?_
              rintro e w6 ⟨rfl, hb6⟩
              have HB6 := hide (HB4.out.trans (hb6.mono HB4.out.size))
              clear HLf HR k0 k1 k2 hrow hb6 HI4 HB4 HO4
              go_wp2_with fail
              exact bodyPost_ret (results_tmp2 rfl _ _ _) rfl ⟨.slice none 0 0, by rw [HD.out]; rfl, by rw [HD.out]; exact ⟨HB6.out, World.ownsRow_nil _ _ _ _⟩⟩
          · have hzb : ((m2.length : Int) == 0) = false := by rw [beq_eq_false_iff_ne]; omega
            generalize endN 0 m2 = ee at *
            cases hr : rightT ⟨fr, many, data⟩ with
            | true =>
              rw [hr, if_pos rfl] at hd
              rw [hr] at HR
              have HD := hide hd
              clear hd hr hless hlen
              go_wp2_with fail
              refine HLf.out.mono ?_
              rintro en w6 ⟨rfl, rfl⟩
              go_wp2_with fail
              refine (HR.out _).mono ?_
              rintro e w6 ⟨rfl, hb6⟩
              have s6 := (hb6.block n3 hn3').trans hrow
              have j0 : w6.cell? ⟨n3, 0, none⟩ = some (.int .i64 fr) := cell_of_row _ _ _ _ _ _ s6
              have j1 : w6.cell? ⟨n3, 1, none⟩ = some (.int .i64 many) := cell_of_row _ _ _ _ _ _ s6
              have j2 : w6.cell? ⟨n3, 2, none⟩ = some (.string data) := cell_of_row _ _ _ _ _ _ s6
              have HI6 := hide (HI4.out.keep (hb6.mono HI4.out.lt))
              have hB6 := HB4.out.trans (hb6.mono HB4.out.size)
              have hO6 := own_below HO4.out hb6
              have hO7 := hO6.alloc (.cells (Tk.cells ⟨fr, many, data⟩) 71)
              have hRn := RdT.one w6 ⟨fr, many, data⟩ 71
              have hB7 := hB6.alloc hB6.size (.cells (Tk.cells ⟨fr, many, data⟩) 71)
              have hI7 := HI6.out.keep (((Below.refl w6.heap.size w6).alloc (Nat.le_refl _) (.cells (Tk.cells ⟨fr, many, data⟩) 71)).mono HI6.out.lt)
              have hsz : w1.heap.size ≤ (w6.alloc (.cells (Tk.cells ⟨fr, many, data⟩) 71)).heap.size := by have := hb6.size; simp; omega
              clear HLf HR k0 k1 k2 hrow hb6 s6 hB6 hO6 HI4 HB4 HO4
              go_wp2_with (at_builtin; go_loud (refine wpList_append_toks rfl _ _ 65 rfl w1.heap.size 71 i0 Try.underlying65 hi hz0 hz1 hz2 _ _ _ rfl hO7 (some ⟨w6.heap.size, 0, none⟩) _ 1 _ [⟨fr, many, data⟩] rfl rfl hRn (by unfold maxLen; omega) (by omega) hsz ?_))
              intro v8 w8 hO8 hg8
              have hB8 := hB7.grown hg8 hB7.size (fun r e => Nat.le_trans HB1.out.size (hO7.lt r e).1)
              have hI8 := hI7.keep ((Below.refl (bR + 1) _).grown hg8 hI7.lt (fun r e => Nat.le_trans hlt (hO7.lt r e).1))
              obtain ⟨D, g, rfl⟩ := ownsRow_slice hO8
              have hlen9 : (o ++ [(⟨fr, many, data⟩ : Tk)]).length = o.length + 1 := by simp
              have HO9 := hide (show w8.ownsRow w1.heap.size 71 3 (.slice D (o ++ [(⟨fr, many, data⟩ : Tk)]).length g) (o ++ [(⟨fr, many, data⟩ : Tk)]).length (cellsT (o ++ [⟨fr, many, data⟩])) from by rw [cellsT_app, hlen9]; exact hO8)
              have HB9 := hide (And.intro hB8 (Nat.le_trans hsz hg8.size))
              have HI9 := hide hI8
              rw [hlen9] at HO9
              clear hO7 hRn hB7 hO8 hg8 hB8 hI7 hI8 hsz j0 j1 j2 HI6
              go_wp2_with fail
              go_roundg g0
              case rel => exact ⟨D, g, o ++ [⟨fr, many, data⟩], m2, by rw [hlen9], by omega, by rw [hlen9]; omega, HI9, by rw [hlen9]; exact HO9, HB9, HD⟩
              case measure => omega
            | false =>
              rw [hr, if_neg (by decide)] at hd
              rw [hr] at HR
              have HD := hide hd.symm
              clear hd hr hless hlen
              go_wp2_with fail
              refine HLf.out.mono ?_
              rintro en w6 ⟨rfl, rfl⟩
              go_wp2_with fail
              refine (HR.out _).mono ?_
              rintro e w6 ⟨rfl, hb6⟩
              have HB6 := hide (HB4.out.trans (hb6.mono HB4.out.size))
              clear HLf HR k0 k1 k2 hrow hb6 HI4 HB4 HO4
              go_wp2_with fail
              exact bodyPost_ret (results_tmp2 rfl _ _ _) rfl ⟨.slice none 0 0, by rw [HD.out]; rfl, by rw [HD.out]; exact ⟨HB6.out, World.ownsRow_nil _ _ _ _⟩⟩
        · rw [if_pos he] at hd
          have hl2 : leftN e2 m2 = 0 := by unfold leftN; rw [if_pos he]
          have he2 : endN e2 m2 = e2 := by unfold endN; rw [if_pos he]
          rw [hl2] at HLf
          rw [he2]
          have E1 : ((e2 : Int) != 0) = true := by rw [bne_iff_ne]; omega
          have HD := hide hd.symm
          clear hd he hless hlen hl2 he2
          go_wp2_with fail
          refine HLf.out.mono ?_
          rintro en w6 ⟨rfl, rfl⟩
          clear HLf k0 k1 k2 hrow HI4 HO4
          go_wp2_with fail
          exact bodyPost_ret (results_tmp2 rfl _ _ _) rfl ⟨.slice none 0 0, by rw [HD.out]; rfl, by rw [HD.out]; exact ⟨HB4.out, World.ownsRow_nil _ _ _ _⟩⟩
end Go.Proofs.Ytobgbheodlpclaa
