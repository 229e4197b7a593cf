/-
  The tokens that are right; how many literal bytes there are.
-/
import Derived.Test.YtobgbheodlpclaaAutoTkTo
namespace Go.Proofs.Ytobgbheodlpclaa
open Go.RowKit
set_option maxRecDepth 100000

/-- The tokens that are right. -/
def rightL (l : List Tk) : List Tk := l.filter rightT
theorem rightL_drop (l : List Tk) (i : Nat) (t : Tk) (h : l[i]? = some t) : rightL (l.drop i) = if rightT t = true then t :: rightL (l.drop (i + 1)) else rightL (l.drop (i + 1)) := by
  obtain ⟨hlt, e⟩ := List.getElem?_eq_some_iff.1 h
  rw [List.drop_eq_getElem_cons hlt, e]
  unfold rightL
  cases hr : rightT t <;> simp [hr]
/-- How many bytes the texts of tokens have. -/
def sizeL : List Tk → Nat
  | [] => 0
  | t :: l => t.data.size + sizeL l
theorem sizeL_app : ∀ a b : List Tk, sizeL (a ++ b) = sizeL a + sizeL b
  | [], b => by simp [sizeL]
  | t :: a, b => by simp [sizeL, sizeL_app a b]; omega
theorem sizeL_drop (l : List Tk) (i : Nat) (t : Tk) (h : l[i]? = some t) : sizeL (l.drop i) = t.data.size + sizeL (l.drop (i + 1)) := by
  obtain ⟨hlt, e⟩ := List.getElem?_eq_some_iff.1 h
  rw [List.drop_eq_getElem_cons hlt, e]; rfl
theorem sizeL_filter (p : Tk → Bool) : ∀ l : List Tk, sizeL (l.filter p) ≤ sizeL l
  | [] => Nat.le_refl _
  | t :: l => by
    have := sizeL_filter p l
    rw [List.filter_cons]
    split
    · simp only [sizeL]; omega
    · simp only [sizeL]; omega
theorem sizeL_le : ∀ (l : List Tk) (m : Nat), (∀ a ∈ l, a.data.size ≤ m) → sizeL l ≤ l.length * m
  | [], m, _ => by simp [sizeL]
  | t :: l, m, h => by
    have h1 := h t List.mem_cons_self
    have h2 := sizeL_le l m (fun a ha => h a (List.mem_cons_of_mem _ ha))
    simp only [sizeL, List.length_cons, Nat.succ_mul]; omega
/-- How many literal bytes there are. -/
def bytesL (l : List Tk) : Nat := sizeL (rightL l)

set_option maxHeartbeats 16000000 in
theorem rightL_any (A : Option Addr) (l : List Tk) (c : Nat) (w : World) (hA : RdT w w.heap.size A l) (hl : (l.length : Int) ≤ 1000000) :
    Calls Try.prog 90 #[.slice A l.length c] w fun e w' => ∃ v, e = .returned v ∧ TI w 71 v (rightL l) w' := by
  obtain ⟨i0, hi, hz0, hz1, hz2⟩ := info_parts info_tk
  obtain ⟨V, hV⟩ : ∃ V, V = rightL l := ⟨_, rfl⟩
  have HV := hide (show [] ++ rightL (l.drop 0) = V by rw [hV]; rfl)
  rw [← hV]
  have HA := hide hA
  clear hA hV
  go_enter Try.func90, Try.ntmps90
  go_wp2_with fail
  go_loopg [3, 8] l.length (fun gk ov iv wr => ∃ (i : Nat) (B : Option Addr) (d : Nat) (o : List Tk), ov = .slice B o.length d ∧ iv = .int .i64 i ∧ i + gk = l.length ∧ o.length ≤ i ∧ Hid (TI w 71 (.slice B o.length d) o wr) ∧ Hid (o ++ rightL (l.drop i) = V))
  case atStart => exact ⟨0, none, 0, [], rfl, rfl, by omega, by simp, hide ⟨Below.refl _ _, World.ownsRow_nil _ _ _ _⟩, HV⟩
  case round =>
    obtain ⟨i, B, d, o, rfl, rfl, hig, hoi, HO, HQ⟩ := hrel
    clear HV
    cases gk with
    | zero =>
      obtain rfl : i = l.length := by omega
      have HE := hide (show V = o by rw [← HQ.out, List.drop_length]; simp [rightL])
      clear HQ
      go_wp2_with fail
      exact bodyPost_ret (results_tmp rfl _ _ _) rfl ⟨.slice B o.length d, rfl, by rw [HE.out]; exact HO.out⟩
    | succ g0 =>
      have hii : (i : Int) < l.length := by omega
      have hi0 : (0 : Int) ≤ (i : Int) := by omega
      obtain ⟨t, ht⟩ : ∃ t, l[i]? = some t := ⟨_, List.getElem?_eq_getElem (by omega)⟩
      obtain ⟨ad, rfl, hlt, hnd⟩ := (HA.out.below HO.out.below (Nat.le_refl _)) i t ht
      have hd := HQ.out
      rw [rightL_drop l i t ht] at hd
      have hiw : IntKind.i64.wrap ((i : Int) + 1) = ((i + 1 : Nat) : Int) := by rw [IntWalk.i64_in _ (by omega)]; rfl
      obtain ⟨c0, c1, c2⟩ := hnd
      have HR := hide (right_any t)
      obtain ⟨fr, many, data⟩ := t
      simp only at c0 c1 c2
      have hI4 := HO.out.step ((Below.refl wr.heap.size wr).alloc (Nat.le_refl _) (.cells (Tk.cells ⟨fr, many, data⟩) 71))
      have hrow := World.alloc_heap_new wr (Obj.cells (Tk.cells ⟨fr, many, data⟩) 71)
      cases hr : rightT ⟨fr, many, data⟩ with
      | false =>
        rw [hr] at hd HR
        rw [if_neg (by decide)] at hd
        have HD := hide hd
        clear hd ht hr
        have HI4 := hide hI4
        clear hI4
        go_wp2_with fail
        refine (HR.out _).mono ?_
        rintro e w3 ⟨rfl, hb3⟩
        have HI5 := hide (HI4.out.step hb3)
        clear HI4 hrow hb3
        go_wp2_with fail
        go_roundg g0
        case rel => exact ⟨i + 1, B, d, o, rfl, rfl, by omega, by omega, HI5, HD⟩
        case measure => omega
      | true =>
        rw [hr] at hd HR
        rw [if_pos rfl] at hd
        have HD := hide (show (o ++ [⟨fr, many, data⟩]) ++ rightL (l.drop (i + 1)) = V by rw [← hd]; simp)
        clear hd ht hr
        have HI4 := hide hI4
        clear hI4
        go_wp2_with fail
        refine (HR.out _).mono ?_
        rintro e w3 ⟨rfl, hb3⟩
        have s3 := (hb3.block wr.heap.size (by simp)).trans hrow
        have k0 : w3.cell? ⟨wr.heap.size, 0, none⟩ = some (.int .i64 fr) := cell_of_row _ _ _ _ _ _ s3
        have k1 : w3.cell? ⟨wr.heap.size, 1, none⟩ = some (.int .i64 many) := cell_of_row _ _ _ _ _ _ s3
        have k2 : w3.cell? ⟨wr.heap.size, 2, none⟩ = some (.string data) := cell_of_row _ _ _ _ _ _ s3
        have hI5 := HI4.out.step hb3
        have hO6 := hI5.own.alloc (.cells (Tk.cells ⟨fr, many, data⟩) 71)
        have hRn := RdT.one w3 ⟨fr, many, data⟩ 71
        have hB6 := hI5.below.alloc hI5.below.size (.cells (Tk.cells ⟨fr, many, data⟩) 71)
        have hsz := hB6.size
        clear HI4 hrow hb3 s3 hI5 c0 c1 c2
        go_wp2_with (at_builtin; go_loud (refine wpList_append_toks rfl _ _ 65 rfl w.heap.size 71 i0 Try.underlying65 hi hz0 hz1 hz2 _ _ _ rfl hO6 (some ⟨w3.heap.size, 0, none⟩) _ 1 _ [⟨fr, many, data⟩] rfl rfl hRn (by unfold maxLen; omega) (by omega) hsz ?_))
        intro v5 w5 hO5 hg5
        have hB5 := hB6.grown hg5 hB6.size (fun r e => (hO6.lt r e).1)
        obtain ⟨D, g, rfl⟩ := ownsRow_slice hO5
        have hlen : (o ++ [(⟨fr, many, data⟩ : Tk)]).length = o.length + 1 := by simp
        have HI7 := hide (show TI w 71 (.slice D (o ++ [(⟨fr, many, data⟩ : Tk)]).length g) (o ++ [⟨fr, many, data⟩]) w5 from ⟨hB5, by rw [cellsT_app, hlen]; exact hO5⟩)
        rw [hlen] at HI7
        clear hO6 hRn hB6 hO5 hg5 hB5 hsz k0 k1 k2
        go_wp2_with fail
        go_roundg g0
        case rel => exact ⟨i + 1, D, g, o ++ [⟨fr, many, data⟩], by rw [hlen], rfl, by omega, by rw [hlen]; omega, by rw [hlen]; exact HI7, HD⟩
        case measure => omega

set_option maxHeartbeats 16000000 in
theorem bytesL_any (A : Option Addr) (l : List Tk) (c : Nat) (w : World) (hA : RdT w w.heap.size A l) (hl : (l.length : Int) ≤ 1000000) (hs : sizeL l ≤ 1000000) :
    Calls Try.prog 45 #[.slice A l.length c] w fun e w' => e = .returned (.int .i64 (bytesL l : Nat)) ∧ Below w.heap.size w w' := by
  have HR := hide (rightL_any A l c w hA hl)
  have hsz : sizeL (rightL l) ≤ 1000000 := Nat.le_trans (sizeL_filter _ _) hs
  have hrl : (rightL l).length ≤ l.length := List.length_filter_le _ _
  unfold bytesL
  obtain ⟨V, hV⟩ : ∃ V, V = sizeL (rightL l) := ⟨_, rfl⟩
  have HV := hide (show 0 + sizeL ((rightL l).drop 0) = V by rw [hV]; simp)
  rw [← hV] at hsz ⊢
  generalize rightL l = r at HR HV hrl
  clear hV hA
  go_enter Try.func45, Try.ntmps45
  go_wp2_with fail
  refine HR.out.mono ?_
  rintro e w1 ⟨v, rfl, hI⟩
  obtain ⟨D, d, rfl⟩ := ownsRow_slice hI.own
  have HRd := hide (RdT.own hI.own)
  have HB1 := hide hI.below
  clear HR hI
  go_wp2_with fail
  go_loopg [3, 9] r.length (fun gk nv iv wr => ∃ (i n : Nat), nv = .int .i64 n ∧ iv = .int .i64 i ∧ i + gk = r.length ∧ Hid (Below w1.heap.size w1 wr) ∧ Hid (n + sizeL (r.drop i) = V))
  case atStart => exact ⟨0, 0, rfl, rfl, by omega, hide (Below.refl _ _), HV⟩
  case round =>
    obtain ⟨i, n, rfl, rfl, hig, HB, HQ⟩ := hrel
    clear HV
    cases gk with
    | zero =>
      obtain rfl : i = r.length := by omega
      have HE := hide (show V = n by rw [← HQ.out, List.drop_length]; simp [sizeL])
      clear HQ
      go_wp2_with fail
      exact bodyPost_ret (results_tmp rfl _ _ _) rfl ⟨by rw [HE.out]; rfl, HB1.out.trans (HB.out.mono HB1.out.size)⟩
    | succ g0 =>
      have hii : (i : Int) < r.length := by omega
      have hi0 : (0 : Int) ≤ (i : Int) := by omega
      obtain ⟨t, ht⟩ : ∃ t, r[i]? = some t := ⟨_, List.getElem?_eq_getElem (by omega)⟩
      obtain ⟨ad, rfl, hlt, hnd⟩ := (HRd.out.below HB.out (Nat.le_refl _)) i t ht
      have hd := HQ.out
      rw [sizeL_drop r i t ht] at hd
      have hiw : IntKind.i64.wrap ((i : Int) + 1) = ((i + 1 : Nat) : Int) := by rw [IntWalk.i64_in _ (by omega)]; rfl
      obtain ⟨c0, c1, c2⟩ := hnd
      obtain ⟨fr, many, data⟩ := t
      simp only at c0 c1 c2 hd
      have hnw : IntKind.i64.wrap ((n : Int) + data.size) = ((n + data.size : Nat) : Int) := by rw [IntWalk.i64_in _ (by omega)]; rfl
      have HD := hide (show (n + data.size) + sizeL (r.drop (i + 1)) = V by omega)
      have HB2 := hide (HB.out.alloc HB.out.size (.cells (Tk.cells ⟨fr, many, data⟩) 71))
      clear hd ht hlt HQ HB
      go_wp2_with fail
      go_roundg g0
      case rel => exact ⟨i + 1, n + data.size, rfl, rfl, by omega, HB2, HD⟩
      case measure => omega

set_option maxHeartbeats 16000000 in
theorem refBytesL_any (A : Option Addr) (l : List Tk) (c : Nat) (w : World) (hA : RdT w w.heap.size A l) (hl : (l.length : Int) ≤ 1000000) (hs : sizeL l ≤ 1000000) :
    Calls Try.prog 46 #[.slice A l.length c] w fun e w' => e = .returned (.int .i64 (bytesL l : Nat)) ∧ Below w.heap.size w w' := by
  have hsz : bytesL l ≤ 1000000 := Nat.le_trans (sizeL_filter _ _) hs
  obtain ⟨V, hV⟩ : ∃ V, V = bytesL l := ⟨_, rfl⟩
  have HV := hide (show 0 + sizeL (rightL (l.drop 0)) = V by rw [hV]; simp [bytesL])
  rw [← hV] at hsz ⊢
  have HA := hide hA
  clear hV hA
  go_enter Try.func46, Try.ntmps46
  go_wp2_with fail
  go_loopg [3, 4] l.length (fun gk nv iv wr => ∃ (i n : Nat), nv = .int .i64 n ∧ iv = .int .i64 i ∧ i + gk = l.length ∧ Hid (Below w.heap.size w wr) ∧ Hid (n + sizeL (rightL (l.drop i)) = V))
  case atStart => exact ⟨0, 0, rfl, rfl, by omega, hide (Below.refl _ _), HV⟩
  case round =>
    obtain ⟨i, n, rfl, rfl, hig, HB, HQ⟩ := hrel
    clear HV
    cases gk with
    | zero =>
      obtain rfl : i = l.length := by omega
      have HE := hide (show V = n by rw [← HQ.out, List.drop_length]; simp [sizeL, rightL])
      clear HQ
      go_wp2_with fail
      exact bodyPost_ret (results_tmp rfl _ _ _) rfl ⟨by rw [HE.out]; rfl, HB.out⟩
    | succ g0 =>
      have hii : (i : Int) < l.length := by omega
      have hi0 : (0 : Int) ≤ (i : Int) := by omega
      obtain ⟨t, ht⟩ : ∃ t, l[i]? = some t := ⟨_, List.getElem?_eq_getElem (by omega)⟩
      have HX := hide (fun (W : World) (h : Below w.heap.size w W) => (HA.out.below h (Nat.le_refl _)) i t ht)
      obtain ⟨ad, rfl, hlt, hnd⟩ := HX.out wr HB.out
      have hd := HQ.out
      rw [rightL_drop l i t ht] at hd
      have hiw : IntKind.i64.wrap ((i : Int) + 1) = ((i + 1 : Nat) : Int) := by rw [IntWalk.i64_in _ (by omega)]; rfl
      obtain ⟨c0, c1, c2⟩ := hnd
      have HR := hide (refTRight_any t)
      cases hr : rightT t with
      | false =>
        rw [hr] at hd HR
        rw [if_neg (by decide)] at hd
        have HD := hide hd
        obtain ⟨fr, many, data⟩ := t
        simp only at c0 c1 c2
        clear hd ht hr hlt HX
        go_wp2_with fail
        refine (HR.out _).mono ?_
        rintro e w3 ⟨rfl, hb3⟩
        have HB3 := hide (HB.out.trans (hb3.mono HB.out.size))
        clear c0 c1 c2 hb3
        go_wp2_with fail
        go_roundg g0
        case rel => exact ⟨i + 1, n, rfl, rfl, by omega, HB3, HD⟩
        case measure => omega
      | true =>
        rw [hr] at hd HR
        rw [if_pos rfl] at hd
        obtain ⟨fr, many, data⟩ := t
        simp only at c0 c1 c2
        have hd2 : n + (data.size + sizeL (rightL (l.drop (i + 1)))) = V := hd
        have hnw : IntKind.i64.wrap ((n : Int) + data.size) = ((n + data.size : Nat) : Int) := by rw [IntWalk.i64_in _ (by omega)]; rfl
        have HD := hide (show (n + data.size) + sizeL (rightL (l.drop (i + 1))) = V by omega)
        clear hd hd2 ht hr hlt
        go_wp2_with fail
        refine (HR.out _).mono ?_
        rintro e w3 ⟨rfl, hb3⟩
        have HB3 := hide (HB.out.trans (hb3.mono HB.out.size))
        obtain ⟨ad', e', _, d0, d1, d2⟩ := HX.out w3 HB3.out
        cases e'
        simp only at d0 d1 d2
        clear c0 c1 c2 hb3 HX
        go_wp2_with fail
        go_roundg g0
        case rel => exact ⟨i + 1, n + data.size, rfl, rfl, by omega, HB3, HD⟩
        case measure => omega
end Go.Proofs.Ytobgbheodlpclaa
