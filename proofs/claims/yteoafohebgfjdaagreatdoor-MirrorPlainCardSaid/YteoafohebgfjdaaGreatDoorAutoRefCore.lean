/-
  Texts that belong together: TreeOf, PathResv, RefCore.
-/
import Derived.Test.YteoafohebgfjdaaGreatDoorAutoPathCutMore
import Derived.Test.YteoafohebgfjdaaGreatDoorAutoNodeRef
import Derived.Test.YteoafohebgfjdaaGreatDoorAutoPathMoves
import Derived.Test.YteoafohebgfjdaaGreatDoorAutoPathName
/-
  The reference's Of: the well-formed tree that can be taken of any list (10.1).
-/
namespace Go.Proofs.YteoafohebgfjdaaGreatDoor
open Go.RowKit
set_option maxRecDepth 100000

/-- The right nodes of a list, of several with one path the first one, in order. -/
def sortFrom (s : List Nd) : List Nd → List Nd
  | [] => s
  | n :: t => sortFrom (if checkN n = 0 ∧ atL n.path s < 0 then insL s n else s) t
/-- Those whose parent is the root, or a directory that was taken. -/
def takeFrom (o : List Nd) : List Nd → List Nd
  | [] => o
  | n :: t => takeFrom (if dadL o n.path = 0 ∧ o.length < 512 then o ++ [n] else o) t
def treeL (l : List Nd) : List Nd := takeFrom [] (sortFrom [] l)
theorem sort_drop (s l : List Nd) (i : Nat) (n : Nd) (h : l[i]? = some n) : sortFrom s (l.drop i) = sortFrom (if checkN n = 0 ∧ atL n.path s < 0 then insL s n else s) (l.drop (i + 1)) := by
  obtain ⟨hlt, e⟩ := List.getElem?_eq_some_iff.1 h
  rw [List.drop_eq_getElem_cons hlt, e]; rfl
theorem take_drop (s l : List Nd) (i : Nat) (n : Nd) (h : l[i]? = some n) : takeFrom s (l.drop i) = takeFrom (if dadL s n.path = 0 ∧ s.length < 512 then s ++ [n] else s) (l.drop (i + 1)) := by
  obtain ⟨hlt, e⟩ := List.getElem?_eq_some_iff.1 h
  rw [List.drop_eq_getElem_cons hlt, e]; rfl
theorem gt_le (p : ByteArray) : ∀ (l : List Nd) (i : Nat), gtFrom p i l ≤ i + l.length
  | [], i => by simp [gtFrom]
  | n :: t, i => by
    unfold gtFrom
    split
    · have := gt_le p t (i + 1); simp; omega
    · simp
theorem ins_len (l : List Nd) (n : Nd) : (insL l n).length = l.length + 1 := by
  have := gt_le n.path l 0
  simp [insL]
  omega
theorem FewN.ins {l : List Nd} {n : Nd} (h : FewN l) (hn : (n.path.size : Int) ≤ 1000000 ∧ (n.data.size : Int) ≤ 1000000) : FewN (insL l n) := fun k m hm => by
  have := List.mem_of_getElem? hm
  unfold insL at this
  simp only [List.mem_append, List.mem_singleton] at this
  rcases this with (h1 | h1) | h1
  · obtain ⟨j, hj⟩ := List.getElem?_of_mem (List.mem_of_mem_take h1)
    exact h j m hj
  · rw [h1]; exact hn
  · obtain ⟨j, hj⟩ := List.getElem?_of_mem (List.mem_of_mem_drop h1)
    exact h j m hj
theorem FewN.snoc {l : List Nd} {n : Nd} (h : FewN l) (hn : (n.path.size : Int) ≤ 1000000 ∧ (n.data.size : Int) ≤ 1000000) : FewN (l ++ [n]) := fun k m hm => by
  have := List.mem_of_getElem? hm
  simp only [List.mem_append, List.mem_singleton] at this
  rcases this with h1 | h1
  · obtain ⟨j, hj⟩ := List.getElem?_of_mem h1
    exact h j m hj
  · rw [h1]; exact hn
theorem FewN.nil : FewN [] := fun k m hm => by simp at hm

/-- What has been put together. -/
structure NI (w : World) (v : Value) (s : List Nd) (W : World) : Prop where
  below : Below w.heap.size w W
  own : W.ownsRow w.heap.size 36 5 v s.length (cellsN s)
theorem NI.step {w W W2 : World} {v : Value} {s : List Nd} (h : NI w v s W) (hb : Below W.heap.size W W2) : NI w v s W2 := ⟨h.below.trans (hb.mono h.below.size), own_below h.own hb⟩

set_option maxHeartbeats 16000000 in
theorem refOfTree_any (A : Option Addr) (l : List Nd) (c : Nat) (w : World) (hA : RdN w w.heap.size A l) (hf : FewN l) (hl : (l.length : Int) ≤ 100000) :
    Calls Tryz.prog 8 #[.slice A l.length c] w fun e w' => ∃ v, e = .returned v ∧ NI w v (treeL l) w' := by
  obtain ⟨i0, hi, hz0, hz1, hz2⟩ := info_parts info_node
  obtain ⟨S, hS⟩ : ∃ S, S = sortFrom [] l := ⟨_, rfl⟩
  have HS := hide (show sortFrom [] (l.drop 0) = S by rw [hS]; rfl)
  have HT := hide (show treeL l = takeFrom [] (S.drop 0) by rw [hS]; rfl)
  have HF := hide hf
  have HA := hide hA
  clear hS hf hA
  go_enter Tryz.func8, Tryz.ntmps8
  go_wp2_with fail
  go_loopg [3, 4] l.length (fun gk sv iv wr => ∃ (i : Nat) (B : Option Addr) (d : Nat) (s : List Nd), sv = .slice B s.length d ∧ iv = .int .i64 i ∧ i + gk = l.length ∧ s.length ≤ i ∧ NI w (.slice B s.length d) s wr ∧ Hid (sortFrom s (l.drop i) = S) ∧ Hid (FewN s))
  case atStart => exact ⟨0, none, 0, [], rfl, rfl, by omega, by simp, ⟨Below.refl _ _, World.ownsRow_nil _ _ _ _⟩, HS, hide FewN.nil⟩
  case round =>
    obtain ⟨i, B, d, s, rfl, rfl, hig, hsi, hI, HQ, HFs⟩ := hrel
    clear HS
    cases gk with
    | zero =>
      obtain rfl : i = l.length := by omega
      have hE : s = S := by rw [← HQ.out, List.drop_of_length_le (Nat.le_refl _)]; rfl
      have HB0 := hide hI.below
      have HR0 := hide (fun W (hb : Below wr.heap.size wr W) => RdN.own (own_below hI.own hb))
      have HFs2 := hide HFs.out
      have hsl : (s.length : Int) ≤ 100000 := by omega
      subst hE
      clear HQ hI HFs hig hsi
      go_wp2_with fail
      obtain ⟨W0, rfl⟩ : ∃ W0, W0 = wr := ⟨_, rfl⟩
      go_loopg [5, 6] s.length (fun gk ov iv wx => ∃ (j : Nat) (E : Option Addr) (f : Nat) (o : List Nd), ov = .slice E o.length f ∧ iv = .int .i64 j ∧ j + gk = s.length ∧ o.length ≤ j ∧ Hid (NI W0 (.slice E o.length f) o wx) ∧ Hid (takeFrom o (s.drop j) = treeL l) ∧ Hid (FewN o))
      case atStart => exact ⟨0, none, 0, [], rfl, rfl, by omega, by simp, hide ⟨Below.refl _ _, World.ownsRow_nil _ _ _ _⟩, hide HT.out.symm, hide FewN.nil⟩
      case round =>
        obtain ⟨j, E, f, o, rfl, rfl, hjg, hoj, HO, HQ, HFo⟩ := hrel
        cases gk with
        | zero =>
          have hE : treeL l = o := by rw [← HQ.out, List.drop_of_length_le (by omega)]; rfl
          have hfin : NI w (.slice E o.length f) (treeL l) wr := by
            rw [hE]
            exact ⟨HB0.out.trans (HO.out.below.mono HB0.out.size), ownsRow_lowerN HO.out.own HB0.out.size⟩
          have HFin := hide hfin
          obtain rfl : j = s.length := by omega
          clear hE hfin HQ
          go_wp2_with fail
          exact bodyPost_ret (results_tmp rfl _ _ _) rfl ⟨.slice E o.length f, rfl, HFin.out⟩
        | succ g1 =>
          have hji : (j : Int) < s.length := by omega
          obtain ⟨n, hn⟩ : ∃ n, s[j]? = some n := ⟨_, List.getElem?_eq_getElem (by omega)⟩
          have HRx := hide (HR0.out wr HO.out.below)
          obtain ⟨ad, rfl, hlt, hnd⟩ := HRx.out j n hn
          have hfew := HFs2.out j n hn
          have HFw := hide hfew
          have hltx : ad.block < wr.heap.size := hlt
          have HND := hide (fun W (hb : Below wr.heap.size wr W) => hnd.below hb (by rw [add_block]; exact hltx))
          have HDad := hide (fun W (h : RdN W W.heap.size E o) => refDad_any E o f n.path W h (by omega) hfew.1)
          have hd := HQ.out
          rw [take_drop o s j n hn] at hd
          have hjw : IntKind.i64.wrap ((j : Int) + 1) = ((j + 1 : Nat) : Int) := by rw [IntWalk.i64_in _ (by omega)]; rfl
          obtain ⟨c0, c1, c2, c3, c4⟩ := hnd
          clear HQ hn hfew HRx
          by_cases hk : dadL o n.path = 0
          · by_cases h5 : o.length < 512
            · rw [if_pos ⟨hk, h5⟩] at hd
              have HD := hide hd
              rw [hk] at HDad
              have h5i : (o.length : Int) < 512 := by omega
              clear hd hk
              go_upto_if 53 with (go_at_call 23; refine (HDad.out wr (RdN.own HO.out.own)).mono ?_; rintro e w3 ⟨rfl, hb3⟩; obtain ⟨k0, k1, k2, k3, k4⟩ := HND.out w3 hb3)
              have hO3 := (HO.out.step hb3).own
              have hB3 := (HO.out.step hb3).below
              have hO4 := hO3.alloc (.cells n.cells 36)
              have hRn := RdN.one w3 n 36
              have hB4 := hB3.alloc hB3.size (.cells n.cells 36)
              have HB3 := hide hB3
              clear hb3 hO3 hB3 c0 c1 c2 c3 c4
              obtain ⟨path, kind, mode, time, data⟩ := n
              have hsz := hB4.size
              go_wp2_with (at_builtin; go_loud (refine wpList_append_nodes rfl _ _ 22 rfl W0.heap.size 36 i0 Tryz.underlying22 hi hz0 hz1 hz2 _ _ _ rfl hO4 (some ⟨w3.heap.size, 0, none⟩) _ 1 _ [⟨path, kind, mode, time, data⟩] rfl rfl hRn (by unfold maxLen; omega) (by omega) hsz ?_))
              intro v5 w5 hO5 hg5
              have hB5 := hB4.grown hg5 hB4.size (fun r e => (hO4.lt r e).1)
              obtain ⟨D, g, rfl⟩ := ownsRow_slice hO5
              have HO6 := hide (show NI W0 (.slice D (o ++ [(⟨path, kind, mode, time, data⟩ : Nd)]).length g) (o ++ [⟨path, kind, mode, time, data⟩]) w5 from ⟨hB5, by rw [cellsN_app, List.length_append]; exact hO5⟩)
              have HF6 := hide (HFo.out.snoc (n := ⟨path, kind, mode, time, data⟩) HFw.out)
              have hl6 : (o ++ [(⟨path, kind, mode, time, data⟩ : Nd)]).length ≤ j + 1 := by simp; omega
              have hlen6 : (o ++ [(⟨path, kind, mode, time, data⟩ : Nd)]).length = o.length + 1 := by simp
              rw [hlen6] at HO6
              clear hO4 hRn hB4 hO5 hg5 hB5 hsz k0 k1 k2 k3 k4
              go_wp2_with fail
              go_roundg g1
              case rel => exact ⟨j + 1, D, g, o ++ [⟨path, kind, mode, time, data⟩], by rw [hlen6], rfl, by omega, hl6, by rw [hlen6]; exact HO6, HD, HF6⟩
              case measure => omega
            · rw [if_neg (fun h => h5 h.2)] at hd
              have HD := hide hd
              rw [hk] at HDad
              have h5i : ¬ (o.length : Int) < 512 := by omega
              clear hd hk
              go_wp2_with (go_at_call 23; refine (HDad.out wr (RdN.own HO.out.own)).mono ?_; rintro e w3 ⟨rfl, hb3⟩; obtain ⟨k0, k1, k2, k3, k4⟩ := HND.out w3 hb3)
              have HO3 := hide (HO.out.step hb3)
              have ho3 : o.length ≤ j + 1 := by omega
              go_roundg g1
              case rel => exact ⟨j + 1, E, f, o, rfl, rfl, by omega, ho3, HO3, HD, HFo⟩
              case measure => omega
          · rw [if_neg (fun h => hk h.1)] at hd
            have HD := hide hd
            have hkb : ((dadL o n.path : Int) == 0) = false := beq_eq_false_iff_ne.2 (by omega)
            clear hd hk
            generalize dadL o n.path = z at HDad hkb
            go_wp2_with (go_at_call 23; refine (HDad.out wr (RdN.own HO.out.own)).mono ?_; rintro e w3 ⟨rfl, hb3⟩; obtain ⟨k0, k1, k2, k3, k4⟩ := HND.out w3 hb3)
            have HO3 := hide (HO.out.step hb3)
            have ho3 : o.length ≤ j + 1 := by omega
            go_roundg g1
            case rel => exact ⟨j + 1, E, f, o, rfl, rfl, by omega, ho3, HO3, HD, HFo⟩
            case measure => omega
    | succ g0 =>
      have hii : (i : Int) < l.length := by omega
      obtain ⟨n, hn⟩ : ∃ n, l[i]? = some n := ⟨_, List.getElem?_eq_getElem (by omega)⟩
      obtain ⟨ad, rfl, hlt, hnd⟩ := (HA.out.below hI.below (Nat.le_refl _)) i n hn
      have hd := HQ.out
      rw [sort_drop s l i n hn] at hd
      have hfew := HF.out i n hn
      have HFw := hide hfew
      have hiw : IntKind.i64.wrap ((i : Int) + 1) = ((i + 1 : Nat) : Int) := by rw [IntWalk.i64_in _ (by omega)]; rfl
      have HCk := hide (fun W => refNode_any n W hfew.1 hfew.2)
      have HAt := hide (fun W (h : RdN W W.heap.size B s) => refAt_any B s d n.path W h (by omega))
      have HIn := hide (fun W (h : RdN W W.heap.size B s) (hc : s.length ≤ d) => refInsert_any B s d n W h HFs.out (by omega) hc hfew.1)
      have hcap := ownsRow_cap hI.own
      have hltr : ad.block < wr.heap.size := Nat.lt_of_lt_of_le hlt hI.below.size
      have HND := hide (fun W (hb : Below wr.heap.size wr W) => hnd.below hb (by rw [add_block]; exact hltr))
      have HI := hide (fun W (hb : Below wr.heap.size wr W) => hI.step hb)
      have hz := hI.below.size
      obtain ⟨c0, c1, c2, c3, c4⟩ := hnd
      clear HQ hn hfew hI
      by_cases hk : checkN n = 0
      · by_cases ha : atL n.path s < 0
        · rw [if_pos ⟨hk, ha⟩] at hd
          have HD := hide hd
          rw [hk] at HCk
          clear hd hk
          generalize atL n.path s = z at HAt ha
          go_wp2_with (first
            | (go_at_call 21; refine (HCk.out _).mono ?_; rintro e w3 ⟨rfl, hb3⟩; obtain ⟨k0, k1, k2, k3, k4⟩ := HND.out w3 hb3)
            | (go_at_call 17; refine (HAt.out w3 (RdN.own (HI.out w3 hb3).own)).mono ?_; rintro e w4 ⟨rfl, hb4⟩; have hb34 := hb3.trans (hb4.mono hb3.size); obtain ⟨m0, m1, m2, m3, m4⟩ := HND.out w4 hb34)
            | (go_at_call 22; refine (HIn.out w4 (RdN.own (HI.out w4 hb34).own) hcap).mono ?_; rintro e w5 ⟨⟨v5, rfl, hO5⟩, hb5⟩))
          have hb35 := hb34.trans (hb5.mono hb34.size)
          have hB5 := (HI.out w5 hb35).below
          have h5 := ownsRow_lowerN hO5 (Nat.le_trans hz hb34.size)
          obtain ⟨D, f, rfl⟩ := ownsRow_slice h5
          have HI5 := hide (show NI w (.slice D (insL s n).length f) (insL s n) w5 from ⟨hB5, h5⟩)
          have HF5 := hide (HFs.out.ins HFw.out)
          have hl5 : (insL s n).length ≤ i + 1 := by rw [ins_len]; omega
          go_roundg g0
          case rel => exact ⟨i + 1, D, f, insL s n, rfl, rfl, by omega, hl5, HI5.out, HD, HF5⟩
          case measure => omega
        · rw [if_neg (fun h => ha h.2)] at hd
          have HD := hide hd
          rw [hk] at HCk
          clear hd hk
          generalize atL n.path s = z at HAt ha
          go_wp2_with (first
            | (go_at_call 21; refine (HCk.out _).mono ?_; rintro e w3 ⟨rfl, hb3⟩; obtain ⟨k0, k1, k2, k3, k4⟩ := HND.out w3 hb3)
            | (go_at_call 17; refine (HAt.out w3 (RdN.own (HI.out w3 hb3).own)).mono ?_; rintro e w4 ⟨rfl, hb4⟩; have hb34 := hb3.trans (hb4.mono hb3.size); obtain ⟨m0, m1, m2, m3, m4⟩ := HND.out w4 hb34))
          have HI5 := hide (HI.out w4 hb34)
          have hl5 : s.length ≤ i + 1 := by omega
          go_roundg g0
          case rel => exact ⟨i + 1, B, d, s, rfl, rfl, by omega, hl5, HI5.out, HD, HFs⟩
          case measure => omega
      · rw [if_neg (fun h => hk h.1)] at hd
        have HD := hide hd
        have hkb : ((checkN n : Int) == 0) = false := beq_eq_false_iff_ne.2 (by omega)
        clear hd hk
        generalize checkN n = z at HCk hkb
        go_wp2_with (go_at_call 21; refine (HCk.out _).mono ?_; rintro e w3 ⟨rfl, hb3⟩; obtain ⟨k0, k1, k2, k3, k4⟩ := HND.out w3 hb3)
        have HI5 := hide (HI.out w3 hb3)
        have hl5 : s.length ≤ i + 1 := by omega
        go_roundg g0
        case rel => exact ⟨i + 1, B, d, s, rfl, rfl, by omega, hl5, HI5.out, HD, HFs⟩
        case measure => omega
end Go.Proofs.YteoafohebgfjdaaGreatDoor
/-
  paths.Within, Reserved.
-/
namespace Go.Proofs.YteoafohebgfjdaaGreatDoor
open Go.RowKit
set_option maxRecDepth 100000

set_option maxHeartbeats 400000 in
theorem within_any (p q : ByteArray) (w : World) (hp : (p.size : Int) ≤ 1000000000) (hq : (q.size : Int) ≤ 1000000000) :
    Calls Tryz.prog 39 #[.string p, .string q] w fun e w' => e = .returned (.bool (okB p q)) ∧ Below w.heap.size w w' := by
  go_enter Tryz.func39, Tryz.ntmps39
  go_wp2_with fail
  refine (behind_any p q _ hp hq).mono ?_
  rintro e w1 ⟨rfl, hB1⟩
  go_wp2_with fail
  go_ret
  exact ⟨rfl, hB1⟩

set_option maxHeartbeats 400000 in
theorem reserved_any (p : ByteArray) (w : World) (hp : (p.size : Int) ≤ 1000000000) :
    Calls Tryz.prog 67 #[.string p] w fun e w' => e = .returned (.bool (okB p ⟨#[46, 102, 108, 105, 116]⟩)) ∧ Below w.heap.size w w' := by
  go_enter Tryz.func67, Tryz.ntmps67
  go_wp2_with fail
  refine (within_any p ⟨#[46, 102, 108, 105, 116]⟩ _ hp (by decide)).mono ?_
  rintro e w1 ⟨rfl, hB1⟩
  go_wp2_with fail
  go_ret
  exact ⟨rfl, hB1⟩
end Go.Proofs.YteoafohebgfjdaaGreatDoor
/-
  The reference's core: a rule's pattern without the slashes at its ends.
-/
namespace Go.Proofs.YteoafohebgfjdaaGreatDoor
open Go.RowKit
set_option maxRecDepth 100000

/-- A pattern without a slash at its begin; was there one? -/
def cutH (l : List UInt8) : List UInt8 × Bool := if l.head? = some 47 then (l.drop 1, true) else (l, false)
/-- A pattern without a slash at its end; was there one? -/
def cutT (l : List UInt8) : List UInt8 × Bool := if l.getLast? = some 47 then (l.dropLast, true) else (l, false)
theorem head_at (s : ByteArray) (h : 0 < s.size) : (toL s).head? = some s[0] := by
  have h' : 0 < (toL s).length := by simpa [toL] using h
  rw [List.head?_eq_getElem?, List.getElem?_eq_getElem h']; rfl
theorem last_at (s : ByteArray) (h : 0 < s.size) : (toL s).getLast? = some (s[s.size - 1]'(by omega)) := by
  have hl : (toL s).length = s.size := by simp [toL]
  rw [List.getLast?_eq_getElem?, hl, List.getElem?_eq_getElem (by omega)]; rfl
theorem cutT_empty (s : ByteArray) (h : s.size = 0) : cutT (toL s) = (toL s, false) := by
  have hl : (toL s).length = s.size := by simp [toL]
  have : toL s = [] := List.length_eq_zero_iff.1 (by omega)
  unfold cutT
  rw [this]; rfl
theorem cutT_some (s : ByteArray) (h : 0 < s.size) (hc : s[s.size - 1]'(by omega) = 47) : cutT (toL s) = (toL (s.extract 0 (s.size - 1)), true) := by
  unfold cutT
  rw [last_at s h, hc, if_pos rfl]
  congr 1
  unfold toL
  rw [Lib.extract_data, List.dropLast_eq_take]
  simp
theorem cutT_none (s : ByteArray) (h : 0 < s.size) (hc : s[s.size - 1]'(by omega) ≠ 47) : cutT (toL s) = (toL s, false) := by
  unfold cutT
  rw [last_at s h, if_neg (by simpa using hc)]

set_option maxHeartbeats 2000000 in
theorem core_plain (s : ByteArray) (w : World) (hs : (s.size : Int) ≤ 1000000) (h : (toL s).head? ≠ some 47) :
    Calls Tryz.prog 89 #[.string s] w fun e w' => ∃ t, e = .returned (.tuple #[.string t, .bool false, .bool (cutT (toL s)).2]) ∧ toL t = (cutT (toL s)).1 ∧ w' = w := by
  by_cases h0 : s.size = 0
  · have HE := hide (cutT_empty s h0)
    have h0i : ¬ (0 : Int) < s.size := by omega
    go_enter Tryz.func89, Tryz.ntmps89
    clear h h0
    go_wp2_with fail
    exact bodyPost_ret (v := .tuple #[.string s, .bool false, .bool false]) (by simp [results, Tryz.results89, go_sem]) rfl ⟨s, by rw [HE.out], by rw [HE.out], rfl⟩
  · have hp : 0 < s.size := by omega
    have hpi : (0 : Int) < s.size := by omega
    rw [head_at s hp] at h
    have hne : ¬ (s[0].toNat : Int) = 47 := fun e => h (by rw [show s[0] = 47 from UInt8.toNat_inj.1 (by have : (47 : UInt8).toNat = 47 := rfl; omega)])
    obtain ⟨m, hm⟩ : ∃ m, m = s.size - 1 := ⟨_, rfl⟩
    have hmi : (s.size : Int) - 1 = (m : Int) := by omega
    have hmw : IntKind.i64.wrap (m : Int) = (m : Int) := IntWalk.i64_in _ (by omega)
    have hml : m < s.size := by omega
    have hmli : (m : Int) < s.size := by omega
    have hmle : (m : Int) ≤ s.size := by omega
    have hlast : s[s.size - 1]'(by omega) = s[m]'hml := by simp only [hm]
    by_cases hc : s[m]'hml = 47
    · have HE := hide (show cutT (toL s) = (toL (s.extract 0 m), true) by rw [cutT_some s hp (by rw [hlast]; exact hc), hm])
      have hci : ((s[m]'hml).toNat : Int) = 47 := by rw [hc]; rfl
      go_enter Tryz.func89, Tryz.ntmps89
      clear h h0 hc hlast hm
      go_wp2_with fail
      exact bodyPost_ret (v := .tuple #[.string (s.extract 0 m), .bool false, .bool true]) (by simp [results, Tryz.results89, go_sem]) rfl ⟨s.extract 0 m, by rw [HE.out], by rw [HE.out], rfl⟩
    · have HE := hide (cutT_none s hp (by rw [hlast]; exact hc))
      have hci : ¬ ((s[m]'hml).toNat : Int) = 47 := fun e => hc (UInt8.toNat_inj.1 (by have : (47 : UInt8).toNat = 47 := rfl; omega))
      go_enter Tryz.func89, Tryz.ntmps89
      clear h h0 hc hlast hm
      go_wp2_with fail
      exact bodyPost_ret (v := .tuple #[.string s, .bool false, .bool false]) (by simp [results, Tryz.results89, go_sem]) rfl ⟨s, by rw [HE.out], by rw [HE.out], rfl⟩
set_option maxHeartbeats 2000000 in
theorem core_slash (s t : ByteArray) (w : World) (hs : (s.size : Int) ≤ 1000000) (h1 : 0 < s.size) (h : s[0] = 47) (hx : s.extract 1 s.size = t) :
    Calls Tryz.prog 89 #[.string s] w fun e w' => ∃ u, e = .returned (.tuple #[.string u, .bool true, .bool (cutT (toL t)).2]) ∧ toL u = (cutT (toL t)).1 ∧ w' = w := by
  have p1 : (0 : Int) < s.size := by omega
  have p2 : (1 : Int) ≤ s.size := by omega
  have p3 : ((s[0]'h1).toNat : Int) = 47 := by rw [h]; rfl
  have hts : t.size = s.size - 1 := by rw [← hx]; simp
  have hti : (t.size : Int) ≤ 1000000 := by omega
  by_cases h0 : t.size = 0
  · have HE := hide (cutT_empty t h0)
    have h0i : ¬ (0 : Int) < t.size := by omega
    go_enter Tryz.func89, Tryz.ntmps89
    clear h hts h0
    go_wp2_with fail
    exact bodyPost_ret (v := .tuple #[.string t, .bool true, .bool false]) (by simp [results, Tryz.results89, go_sem]) rfl ⟨t, by rw [HE.out], by rw [HE.out], rfl⟩
  · have hp : 0 < t.size := by omega
    have hpi : (0 : Int) < t.size := by omega
    obtain ⟨m, hm⟩ : ∃ m, m = t.size - 1 := ⟨_, rfl⟩
    have hmi : (t.size : Int) - 1 = (m : Int) := by omega
    have hmw : IntKind.i64.wrap (m : Int) = (m : Int) := IntWalk.i64_in _ (by omega)
    have hml : m < t.size := by omega
    have hmli : (m : Int) < t.size := by omega
    have hmle : (m : Int) ≤ t.size := by omega
    have hlast : t[t.size - 1]'(by omega) = t[m]'hml := by simp only [hm]
    by_cases hc : t[m]'hml = 47
    · have HE := hide (show cutT (toL t) = (toL (t.extract 0 m), true) by rw [cutT_some t hp (by rw [hlast]; exact hc), hm])
      have hci : ((t[m]'hml).toNat : Int) = 47 := by rw [hc]; rfl
      go_enter Tryz.func89, Tryz.ntmps89
      clear h hts h0 hc hlast hm
      go_wp2_with fail
      exact bodyPost_ret (v := .tuple #[.string (t.extract 0 m), .bool true, .bool true]) (by simp [results, Tryz.results89, go_sem]) rfl ⟨t.extract 0 m, by rw [HE.out], by rw [HE.out], rfl⟩
    · have HE := hide (cutT_none t hp (by rw [hlast]; exact hc))
      have hci : ¬ ((t[m]'hml).toNat : Int) = 47 := fun e => hc (UInt8.toNat_inj.1 (by have : (47 : UInt8).toNat = 47 := rfl; omega))
      go_enter Tryz.func89, Tryz.ntmps89
      clear h hts h0 hc hlast hm
      go_wp2_with fail
      exact bodyPost_ret (v := .tuple #[.string t, .bool true, .bool false]) (by simp [results, Tryz.results89, go_sem]) rfl ⟨t, by rw [HE.out], by rw [HE.out], rfl⟩
theorem core_any (s : ByteArray) (w : World) (hs : (s.size : Int) ≤ 1000000) :
    Calls Tryz.prog 89 #[.string s] w fun e w' => ∃ t, e = .returned (.tuple #[.string t, .bool (cutH (toL s)).2, .bool (cutT (cutH (toL s)).1).2]) ∧ toL t = (cutT (cutH (toL s)).1).1 ∧ w' = w := by
  by_cases h : (toL s).head? = some 47
  · have h1 : 0 < s.size := by
      rcases Nat.eq_zero_or_pos s.size with h0 | h0
      · have hl : (toL s).length = s.size := by simp [toL]
        rw [List.length_eq_zero_iff.1 (show (toL s).length = 0 by omega)] at h
        cases h
      · exact h0
    have hc : s[0] = 47 := by
      rw [head_at s h1] at h
      injection h
    have e : cutH (toL s) = (toL (s.extract 1 s.size), true) := by
      unfold cutH
      rw [if_pos h]
      congr 1
      unfold toL
      rw [Lib.extract_data, List.take_of_length_le (by simp)]
    rw [e]
    exact core_slash s _ w hs h1 hc rfl
  · have e : cutH (toL s) = (toL s, false) := by unfold cutH; rw [if_neg h]
    rw [e]
    exact core_plain s w hs h
end Go.Proofs.YteoafohebgfjdaaGreatDoor
