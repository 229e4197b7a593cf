/-
  The bytes of tokens: the program's Put and the reference's.
-/
import Derived.Test.YtobgbheodlpclaaTkBytes
import Derived.Test.YtobgbheodlpclaaVintRefPut
namespace Go.Proofs.Ytobgbheodlpclaa
open Go.RowKit
set_option maxRecDepth 100000

/-- A token's bytes. -/
def tokB (t : Tk) : List UInt8 := groupsL t.many.toNat ++ (if t.many ≠ 0 then groupsL t.from_.toNat else groupsL t.data.size ++ toL t.data)
/-- Tokens' bytes behind others; none, if one isn't right. -/
def putO : List UInt8 → List Tk → Option (List UInt8)
  | o, [] => some o
  | o, t :: r => if rightT t = true then putO (o ++ tokB t) r else none
def putT (l : List Tk) : List UInt8 := (putO [] l).getD []
theorem putO_drop (o : List UInt8) (l : List Tk) (i : Nat) (t : Tk) (h : l[i]? = some t) : putO o (l.drop i) = if rightT t = true then putO (o ++ tokB t) (l.drop (i + 1)) else none := by
  obtain ⟨hlt, e⟩ := List.getElem?_eq_some_iff.1 h
  rw [List.drop_eq_getElem_cons hlt, e]; rfl
/-- What a right token is. -/
theorem right_cases {t : Tk} (h : rightT t = true) : (t.many = 0 ∧ t.from_ = 0 ∧ 1 ≤ t.data.size ∧ t.data.size ≤ 16384) ∨ (0 < t.many ∧ 0 ≤ t.from_ ∧ t.from_ + t.many ≤ 4097 ∧ t.data.size = 0) := by
  unfold rightT at h
  split at h
  · rename_i hm
    simp only [Bool.and_eq_true, decide_eq_true_eq] at h
    exact .inl ⟨hm, h.1.1, by omega, by omega⟩
  · rename_i hm
    simp only [Bool.and_eq_true, decide_eq_true_eq] at h
    exact .inr ⟨by omega, h.1.1.1, h.1.2, h.2⟩
theorem tokB_len {t : Tk} (h : rightT t = true) : (tokB t).length ≤ 17000 := by
  unfold tokB
  have h1 := groupsL_le t.many.toNat
  have h2 := groupsL_le t.from_.toNat
  have h3 := groupsL_le t.data.size
  have h4 : (toL t.data).length = t.data.size := rfl
  rcases right_cases h with ⟨hm, _, _, h5⟩ | ⟨hm, _⟩
  · rw [if_neg (by omega), List.length_append, List.length_append]; omega
  · rw [if_pos (by omega), List.length_append]; omega
theorem tokB_lit {s : ByteArray} : tokB ⟨0, 0, s⟩ = groupsL 0 ++ (groupsL s.size ++ toL s) := rfl
theorem tokB_blocks {a b : Nat} {s : ByteArray} (h : b ≠ 0) : tokB ⟨a, b, s⟩ = groupsL b ++ groupsL a := by
  unfold tokB
  rw [if_pos (show ((b : Nat) : Int) ≠ 0 by omega)]
  rfl

set_option maxHeartbeats 4000000 in
theorem put1_any (t : Tk) (w : World) (h : rightT t = true) : Calls Try.prog 86 #[.agg t.cells] w (Bytes w (tokB t)) := by
  have hB := (Below.refl w.heap.size w).alloc (Nat.le_refl _) (.cells t.cells 71)
  have hrow := World.alloc_heap_new w (Obj.cells t.cells 71)
  rcases right_cases h with ⟨h1, h2, h3, h4⟩ | ⟨h1, h2, h3, h4⟩
  · obtain ⟨fr, many, data⟩ := t
    simp only at h1 h2 h3 h4
    subst h1 h2
    show Calls _ _ #[.agg #[.int .i64 0, .int .i64 0, .string data]] _ _
    have HN := hide (fun W => putNum_any none [] 0 0 W (RdB.nil _ _ _) (by simp) (by decide))
    have HT := hide (fun A c W (hR : RdB W W.heap.size A (groupsL 0)) => putText_any A (groupsL 0) c data W hR (by have := groupsL_le 0; omega) (by omega))
    have HL := hide (groupsL_le 0)
    rw [tokB_lit]
    clear h
    go_enter Try.func86, Try.ntmps86
    go_wp2_with fail
    refine (HN.out _).mono ?_
    rintro e w2 ⟨D, d, rfl, hc, hR, hB2⟩
    have s2 := (hB2.block w.heap.size (by simp)).trans hrow
    have k0 : w2.cell? ⟨w.heap.size, 0, none⟩ = some (.int .i64 0) := cell_of_row _ _ _ _ _ _ s2
    have k1 : w2.cell? ⟨w.heap.size, 1, none⟩ = some (.int .i64 0) := cell_of_row _ _ _ _ _ _ s2
    have k2 : w2.cell? ⟨w.heap.size, 2, none⟩ = some (.string data) := cell_of_row _ _ _ _ _ _ s2
    have HT2 := hide (HT.out D d w2 hR)
    have HB3 := hide (hB.trans (hB2.mono hB.size))
    clear HN HT hrow hB hB2 s2 hR
    simp only [List.nil_append] at *
    go_wp2_with fail
    refine HT2.out.mono ?_
    rintro e w3 hw
    have hw2 := hw.back HB3.out
    obtain ⟨E, f, rfl, g2, g3, g4⟩ := hw2
    clear hw HT2 HB3
    go_wp2_with fail
    exact bodyPost_ret (results_tmp rfl _ _ _) rfl ⟨E, f, by simp only [List.length_append]; rfl, by simpa only [List.append_assoc] using g2, by simpa only [List.append_assoc] using g3, g4⟩
  · obtain ⟨fr, many, data⟩ := t
    simp only at h1 h2 h3 h4
    obtain ⟨m, rfl⟩ : ∃ m : Nat, many = m := ⟨many.toNat, by omega⟩
    obtain ⟨f, rfl⟩ : ∃ f : Nat, fr = f := ⟨fr.toNat, by omega⟩
    show Calls _ _ #[.agg #[.int .i64 (f : Nat), .int .i64 (m : Nat), .string data]] _ _
    have HN := hide (fun W => putNum_any none [] 0 m W (RdB.nil _ _ _) (by simp) (by omega))
    have HT := hide (fun A c W (hR : RdB W W.heap.size A (groupsL m)) => putNum_any A (groupsL m) c f W hR (by have := groupsL_le m; omega) (by omega))
    rw [tokB_blocks (by omega)]
    have E0 : ((m : Int) != 0) = true := by rw [bne_iff_ne]; omega
    have q0 : IntKind.u64.wrap (m : Int) = (m : Int) := by rw [IntKind.wrap_u64]; omega
    have q1 : IntKind.u64.wrap (f : Int) = (f : Int) := by rw [IntKind.wrap_u64]; omega
    clear h
    go_enter Try.func86, Try.ntmps86
    go_wp2_with fail
    refine (HN.out _).mono ?_
    rintro e w2 ⟨D, d, rfl, hc, hR, hB2⟩
    have s2 := (hB2.block w.heap.size (by simp)).trans hrow
    have k0 : w2.cell? ⟨w.heap.size, 0, none⟩ = some (.int .i64 (f : Nat)) := cell_of_row _ _ _ _ _ _ s2
    have k1 : w2.cell? ⟨w.heap.size, 1, none⟩ = some (.int .i64 (m : Nat)) := cell_of_row _ _ _ _ _ _ s2
    have k2 : w2.cell? ⟨w.heap.size, 2, none⟩ = some (.string data) := cell_of_row _ _ _ _ _ _ s2
    have HT2 := hide (HT.out D d w2 hR)
    have HB3 := hide (hB.trans (hB2.mono hB.size))
    clear HN HT hrow hB hB2 s2 hR
    simp only [List.nil_append] at *
    go_wp2_with fail
    refine HT2.out.mono ?_
    rintro e w3 hw
    have hw2 := hw.back HB3.out
    obtain ⟨E, f', rfl, g2, g3, g4⟩ := hw2
    clear hw HT2 HB3
    go_wp2_with fail
    exact bodyPost_ret (results_tmp rfl _ _ _) rfl ⟨E, f', by simp only [List.length_append]; rfl, g2, g3, g4⟩

set_option maxHeartbeats 16000000 in
theorem putT_any (A : Option Addr) (l : List Tk) (c : Nat) (w : World) (hA : RdT w w.heap.size A l) (hl : (l.length : Int) ≤ 1000) :
    Calls Try.prog 40 #[.slice A l.length c] w (Bytes w (putT l)) := by
  obtain ⟨i0, hi, hz0, hz1, hz2⟩ := info_parts info_byte
  unfold putT
  obtain ⟨V, hV⟩ : ∃ V, V = putO [] l := ⟨_, rfl⟩
  have HV := hide (show putO [] (l.drop 0) = V by rw [hV]; rfl)
  rw [← hV]
  have HA := hide hA
  clear hA hV
  go_enter Try.func40, Try.ntmps40
  go_wp2_with fail
  go_loopg [3, 8] l.length (fun gk ov iv wr => ∃ (i : Nat) (B : Option Addr) (d : Nat) (o : List UInt8), ov = .slice B o.length d ∧ iv = .int .i64 i ∧ i + gk = l.length ∧ o.length ≤ i * 17000 ∧ Hid (wr.ownsRow w.heap.size 5 1 (.slice B o.length d) o.length (o.map byteV) ∧ Below w.heap.size w wr) ∧ Hid (putO o (l.drop i) = V))
  case atStart => exact ⟨0, none, 0, [], rfl, rfl, by omega, by simp, hide ⟨World.ownsRow_nil _ _ _ _, Below.refl _ _⟩, HV⟩
  case round =>
    obtain ⟨i, B, d, o, rfl, rfl, hig, hoi, HO, HQ⟩ := hrel
    clear HV
    cases gk with
    | zero =>
      obtain rfl : i = l.length := by omega
      have HE := hide (show V.getD [] = o by rw [← HQ.out, List.drop_length]; rfl)
      clear HQ
      go_wp2_with fail
      exact bodyPost_ret (results_tmp rfl _ _ _) rfl ⟨B, d, by rw [HE.out]; rfl, by rw [HE.out]; exact ownsRow_caps HO.out.1, by rw [HE.out]; exact RdB.own HO.out.1, HO.out.2⟩
    | succ g0 =>
      have hii : (i : Int) < l.length := by omega
      have hi0 : (0 : Int) ≤ (i : Int) := by omega
      obtain ⟨t, ht⟩ : ∃ t, l[i]? = some t := ⟨_, List.getElem?_eq_getElem (by omega)⟩
      obtain ⟨ad, rfl, hlt, hnd⟩ := (HA.out.below HO.out.2 (Nat.le_refl _)) i t ht
      have hd := HQ.out
      rw [putO_drop o l i t ht] at hd
      have hiw : IntKind.i64.wrap ((i : Int) + 1) = ((i + 1 : Nat) : Int) := by rw [IntWalk.i64_in _ (by omega)]; rfl
      obtain ⟨c0, c1, c2⟩ := hnd
      have HR := hide (right_any t)
      have hrow := World.alloc_heap_new wr (Obj.cells t.cells 71)
      cases hr : rightT t with
      | false =>
        rw [hr] at hd HR
        rw [if_neg (by decide)] at hd
        have HD := hide (show V.getD [] = [] by rw [← hd]; rfl)
        have HB4 := hide (HO.out.2.alloc HO.out.2.size (.cells t.cells 71))
        obtain ⟨fr, many, data⟩ := t
        simp only at c0 c1 c2
        clear hd ht hr hrow
        go_wp2_with fail
        refine (HR.out _).mono ?_
        rintro e w3 ⟨rfl, hb3⟩
        have HB5 := hide (HB4.out.trans (hb3.mono HB4.out.size))
        clear HB4 hb3 c0 c1 c2
        go_wp2_with fail
        exact bodyPost_ret (results_tmp rfl _ _ _) rfl ⟨none, 0, by rw [HD.out]; rfl, by rw [HD.out]; exact ⟨Nat.le_refl _, fun _ => rfl⟩, by rw [HD.out]; exact RdB.nil _ _ _, HB5.out⟩
      | true =>
        have HP := hide (fun W => put1_any t W hr)
        have hlen := tokB_len hr
        rw [hr] at hd HR
        rw [if_pos rfl] at hd
        generalize tokB t = b at hd HP hlen
        have HD := hide hd
        have HB4 := hide (HO.out.2.alloc HO.out.2.size (.cells t.cells 71))
        have HO4 := hide (HO.out.1.alloc (.cells t.cells 71))
        obtain ⟨fr, many, data⟩ := t
        simp only at c0 c1 c2
        clear hd ht hr
        go_wp2_with fail
        refine (HR.out _).mono ?_
        rintro e w3 ⟨rfl, hb3⟩
        have s3 := (hb3.block wr.heap.size (by simp)).trans hrow
        have k0 : w3.cell? ⟨wr.heap.size, 0, none⟩ = some (.int .i64 fr) := cell_of_row _ _ _ _ _ _ s3
        have k1 : w3.cell? ⟨wr.heap.size, 1, none⟩ = some (.int .i64 many) := cell_of_row _ _ _ _ _ _ s3
        have k2 : w3.cell? ⟨wr.heap.size, 2, none⟩ = some (.string data) := cell_of_row _ _ _ _ _ _ s3
        have HB5 := hide (HB4.out.trans (hb3.mono HB4.out.size))
        have HO5 := hide (own_below HO4.out hb3)
        clear HB4 HO4 hb3 c0 c1 c2 s3 hrow HR
        go_wp2_with fail
        refine (HP.out _).mono ?_
        rintro e w6 ⟨D, f, rfl, hcap, hR6, hb6⟩
        have hB6 := HB5.out.trans (hb6.mono HB5.out.size)
        have hO6 := own_below HO5.out hb6
        have hsz := hB6.size
        clear HB5 HO5 k0 k1 k2 hb6 HP
        go_wp2_with (at_builtin; go_loud (refine wpList_append_bytes rfl _ _ 22 rfl w.heap.size 5 i0 Try.underlying22 hi hz0 hz1 hz2 _ _ _ rfl hO6 D _ f _ b rfl rfl hR6 (by unfold maxLen; omega) (by omega) hsz ?_))
        intro v7 w7 hO7 hg7
        have hB7 := hB6.grown hg7 hB6.size (fun r e => (hO6.lt r e).1)
        obtain ⟨E, g, rfl⟩ := ownsRow_slice hO7
        have hl7 : (o ++ b).length = o.length + b.length := List.length_append
        have HO7 := hide (show w7.ownsRow w.heap.size 5 1 (.slice E (o ++ b).length g) (o ++ b).length ((o ++ b).map byteV) ∧ Below w.heap.size w w7 from ⟨by rw [List.map_append, hl7]; exact hO7, hB7⟩)
        rw [hl7] at HO7
        clear hO6 hO7 hg7 hB6 hB7 hR6 hsz
        go_wp2_with fail
        go_roundg g0
        case rel => exact ⟨i + 1, E, g, o ++ b, by rw [hl7], rfl, by omega, by rw [hl7]; omega, by rw [hl7]; exact HO7, HD⟩
        case measure => omega

theorem ofL_add (a b : List UInt8) : ofL a ++ ofL b = ofL (a ++ b) := by
  apply toL_inj
  simp [toL, ofL]
set_option maxHeartbeats 16000000 in
theorem refPutT_any (A : Option Addr) (l : List Tk) (c : Nat) (w : World) (hA : RdT w w.heap.size A l) (hl : (l.length : Int) ≤ 1000) :
    Calls Try.prog 42 #[.slice A l.length c] w (TextIs w (putT l)) := by
  unfold putT
  obtain ⟨V, hV⟩ : ∃ V, V = putO [] l := ⟨_, rfl⟩
  have HV := hide (show putO [] (l.drop 0) = V by rw [hV]; rfl)
  rw [← hV]
  have HA := hide hA
  clear hA hV
  go_enter Try.func42, Try.ntmps42
  go_wp2_with fail
  go_loopg [3, 4] l.length (fun gk ov iv wr => ∃ (i : Nat) (o : List UInt8), ov = .string (ofL o) ∧ iv = .int .i64 i ∧ i + gk = l.length ∧ o.length ≤ i * 17000 ∧ Hid (Below w.heap.size w wr) ∧ Hid (putO o (l.drop i) = V))
  case atStart => exact ⟨0, [], rfl, rfl, by omega, by simp, hide (Below.refl _ _), HV⟩
  case round =>
    obtain ⟨i, o, rfl, rfl, hig, hoi, HB, HQ⟩ := hrel
    clear HV
    cases gk with
    | zero =>
      obtain rfl : i = l.length := by omega
      have HE := hide (show V.getD [] = o by rw [← HQ.out, List.drop_length]; rfl)
      clear HQ
      go_wp2_with fail
      exact bodyPost_ret (results_tmp rfl _ _ _) rfl ⟨by rw [HE.out]; rfl, HB.out⟩
    | succ g0 =>
      have hii : (i : Int) < l.length := by omega
      have hi0 : (0 : Int) ≤ (i : Int) := by omega
      obtain ⟨t, ht⟩ : ∃ t, l[i]? = some t := ⟨_, List.getElem?_eq_getElem (by omega)⟩
      have HX := hide (fun (W : World) (h : Below w.heap.size w W) => (HA.out.below h (Nat.le_refl _)) i t ht)
      obtain ⟨ad, rfl, hlt, hnd⟩ := HX.out wr HB.out
      have hd := HQ.out
      rw [putO_drop o l i t ht] at hd
      have hiw : IntKind.i64.wrap ((i : Int) + 1) = ((i + 1 : Nat) : Int) := by rw [IntWalk.i64_in _ (by omega)]; rfl
      obtain ⟨c0, c1, c2⟩ := hnd
      have HR := hide (refTRight_any t)
      cases hr : rightT t with
      | false =>
        rw [hr] at hd HR
        rw [if_neg (by decide)] at hd
        have HD := hide (show V.getD [] = [] by rw [← hd]; rfl)
        obtain ⟨fr, many, data⟩ := t
        simp only at c0 c1 c2
        clear hd ht hr HX
        go_wp2_with fail
        refine (HR.out _).mono ?_
        rintro e w3 ⟨rfl, hb3⟩
        have HB5 := hide (HB.out.trans (hb3.mono HB.out.size))
        clear hb3 c0 c1 c2
        go_wp2_with fail
        exact bodyPost_ret (results_tmp rfl _ _ _) rfl ⟨by rw [HD.out]; rfl, HB5.out⟩
      | true =>
        have hlen := tokB_len hr
        rw [hr] at hd HR
        rw [if_pos rfl] at hd
        rcases right_cases hr with ⟨h1, h2, h3, h4⟩ | ⟨h1, h2, h3, h4⟩
        · obtain ⟨fr, many, data⟩ := t
          simp only at h1 h2 h3 h4 c0 c1 c2
          subst h1 h2
          rw [tokB_lit] at hd hlen
          have HN := hide (fun W => refNum_any 0 W (by decide))
          have HT := hide (fun W => refText_any data W (by omega))
          have HE1 := hide (ofL_add o (groupsL 0))
          have HE2 := hide (ofL_add (o ++ groupsL 0) (groupsL data.size ++ toL data))
          have hl0 : (ofL (groupsL 0)).size ≤ 10 := by rw [ofL_size]; exact groupsL_le 0
          have hlt2 : (ofL (groupsL data.size ++ toL data)).size ≤ 17000 := by rw [ofL_size]; rw [List.length_append] at hlen; omega
          have q1 : ¬ 9223372036854775807 < (ofL o).size + (ofL (groupsL 0)).size := by rw [ofL_size o]; omega
          have q2 : ¬ 9223372036854775807 < (ofL (o ++ groupsL 0)).size + (ofL (groupsL data.size ++ toL data)).size := by rw [ofL_size (o ++ groupsL 0), List.length_append]; have := groupsL_le 0; omega
          have hl8 : (o ++ (groupsL 0 ++ (groupsL data.size ++ toL data))).length ≤ (i + 1) * 17000 := by rw [List.length_append]; omega
          have HD := hide (show putO ((o ++ groupsL 0) ++ (groupsL data.size ++ toL data)) (l.drop (i + 1)) = V by rw [← hd]; simp only [List.append_assoc])
          have HL8 := hide (show ((o ++ groupsL 0) ++ (groupsL data.size ++ toL data)).length ≤ (i + 1) * 17000 by simpa only [List.append_assoc] using hl8)
          clear hd ht hr hlen hl0 hlt2 hl8 hlt
          generalize groupsL 0 = g at *
          generalize groupsL data.size ++ toL data = gt at *
          go_wp2_with fail
          refine (HR.out _).mono ?_
          rintro e w3 ⟨rfl, hb3⟩
          have HB3 := hide (HB.out.trans (hb3.mono HB.out.size))
          obtain ⟨ad', e', _, d0, d1, d2⟩ := HX.out w3 HB3.out
          cases e'
          simp only at d0 d1 d2
          clear c0 c1 c2 hb3 HB HR
          go_wp2_with fail
          refine (HN.out _).mono ?_
          rintro e w4 ⟨rfl, hb4⟩
          have HB4 := hide (HB3.out.trans (hb4.mono HB3.out.size))
          obtain ⟨ad', e', _, c0, c1, c2⟩ := HX.out w4 HB4.out
          cases e'
          simp only at c0 c1 c2
          clear d0 d1 d2 hb4 HB3 HN
          go_wp2_with fail
          rw [HE1.out]
          refine (HT.out _).mono ?_
          rintro e w5 ⟨rfl, hb5⟩
          have HB5 := hide (HB4.out.trans (hb5.mono HB4.out.size))
          clear c0 c1 c2 hb5 HB4 HT q1
          go_wp2_with fail
          rw [HE2.out]
          go_roundg g0
          case rel => exact ⟨i + 1, (o ++ g) ++ gt, rfl, rfl, by omega, HL8.out, HB5, HD⟩
          case measure => omega
        · obtain ⟨fr, many, data⟩ := t
          simp only at h1 h2 h3 h4 c0 c1 c2
          obtain ⟨m, rfl⟩ : ∃ m : Nat, many = m := ⟨many.toNat, by omega⟩
          obtain ⟨f, rfl⟩ : ∃ f : Nat, fr = f := ⟨fr.toNat, by omega⟩
          rw [tokB_blocks (by omega)] at hd hlen
          have HN := hide (fun W => refNum_any m W (by omega))
          have HT := hide (fun W => refNum_any f W (by omega))
          have HE1 := hide (ofL_add o (groupsL m))
          have HE2 := hide (ofL_add (o ++ groupsL m) (groupsL f))
          have q0 : IntKind.u64.wrap (m : Int) = (m : Int) := by rw [IntKind.wrap_u64]; omega
          have q0' : IntKind.u64.wrap (f : Int) = (f : Int) := by rw [IntKind.wrap_u64]; omega
          have q1 : ¬ 9223372036854775807 < (ofL o).size + (ofL (groupsL m)).size := by rw [ofL_size o, ofL_size]; have := groupsL_le m; omega
          have q2 : ¬ 9223372036854775807 < (ofL (o ++ groupsL m)).size + (ofL (groupsL f)).size := by rw [ofL_size (o ++ groupsL m), ofL_size, List.length_append]; have := groupsL_le m; have := groupsL_le f; omega
          have HD := hide (show putO ((o ++ groupsL m) ++ groupsL f) (l.drop (i + 1)) = V by rw [← hd]; simp only [List.append_assoc])
          have HL8 := hide (show ((o ++ groupsL m) ++ groupsL f).length ≤ (i + 1) * 17000 by rw [List.length_append] at hlen; rw [List.length_append, List.length_append]; omega)
          clear hd ht hr hlen hlt
          generalize groupsL m = g at *
          generalize groupsL f = gt at *
          go_wp2_with fail
          refine (HR.out _).mono ?_
          rintro e w3 ⟨rfl, hb3⟩
          have HB3 := hide (HB.out.trans (hb3.mono HB.out.size))
          obtain ⟨ad', e', _, d0, d1, d2⟩ := HX.out w3 HB3.out
          cases e'
          simp only at d0 d1 d2
          clear c0 c1 c2 hb3 HB HR
          go_wp2_with fail
          refine (HN.out _).mono ?_
          rintro e w4 ⟨rfl, hb4⟩
          have HB4 := hide (HB3.out.trans (hb4.mono HB3.out.size))
          obtain ⟨ad', e', _, c0, c1, c2⟩ := HX.out w4 HB4.out
          cases e'
          simp only at c0 c1 c2
          clear d0 d1 d2 hb4 HB3 HN
          go_wp2_with fail
          rw [HE1.out]
          refine (HT.out _).mono ?_
          rintro e w5 ⟨rfl, hb5⟩
          have HB5 := hide (HB4.out.trans (hb5.mono HB4.out.size))
          clear c0 c1 c2 hb5 HB4 HT q1
          go_wp2_with fail
          rw [HE2.out]
          go_roundg g0
          case rel => exact ⟨i + 1, (o ++ g) ++ gt, rfl, rfl, by omega, HL8.out, HB5, HD⟩
          case measure => omega
end Go.Proofs.Ytobgbheodlpclaa
