/-
  vint.Num and Text put bytes behind others; bytes as a text; slices.Clone.
-/
import Derived.Test.YtpefcadlejcbbaaVintGroups
import Derived.Lib.ConvBytes
import Derived.Laws.BytesArg
namespace Go.Proofs.Ytpefcadlejcbbaa
open Go.RowKit
set_option maxRecDepth 100000

def toL (x : ByteArray) : List UInt8 := x.data.toList
def ofL (l : List UInt8) : ByteArray := ⟨l.toArray⟩
theorem toL_ofL (l : List UInt8) : toL (ofL l) = l := rfl
theorem toL_inj {x y : ByteArray} (h : toL x = toL y) : x = y := by
  obtain ⟨⟨x⟩⟩ := x
  obtain ⟨⟨y⟩⟩ := y
  simp only [toL] at h
  subst h
  rfl
/-- An address of bytes that are there is a block's. -/
theorem RdB.spot {w : World} {B : Nat} {ad : Addr} {x : UInt8} {l : List UInt8} (h : RdB w B (some ad) (x :: l)) : ad.spot = none ∧ ad.block < B := by
  obtain ⟨ad', e, hb, h0⟩ := h 0 x rfl
  cases e
  refine ⟨?_, hb⟩
  rw [show ad.add 0 = ad from rfl] at h0
  unfold World.cell? at h0
  split at h0
  · split at h0
    · cases h0
    · rename_i h; simpa using h
  · cases h0
theorem RdB.at_ {w : World} {B b o k : Nat} {x : UInt8} {l : List UInt8} (h : RdB w B (some ⟨b, o, none⟩) l) (hx : l[k]? = some x) : w.cell? ⟨b, o + k, none⟩ = some (byteV x) := by
  obtain ⟨ad, e, _, hc⟩ := h k x hx
  cases e
  by_cases hk : k = 0
  · subst hk; exact hc
  · unfold Addr.add at hc
    rw [if_neg hk] at hc
    exact hc

theorem push_all : ∀ (l : List UInt8) (r : ByteArray), toL ((l.map (fun x => ((x.toNat : Nat) : Int))).foldl (fun r n => r.push (UInt8.ofNat n.toNat)) r) = toL r ++ l
  | [], r => by simp [toL]
  | x :: l, r => by
    simp only [List.map_cons, List.foldl_cons]
    rw [push_all l]
    simp [toL, ByteArray.push]
/-- A slice of bytes as a text. -/
theorem conv_any {w : World} {B : Nat} {A : Option Addr} {l : List UInt8} (h : RdB w B A l) (c : Nat) :
    (convert 22 9 (.slice A l.length c)).run Try.prog w = .ok (.string (ofL l)) w := by
  cases A with
  | none =>
    have h0 : l = [] := by
      cases l with
      | nil => rfl
      | cons y r => obtain ⟨ad, e', _⟩ := h 0 y rfl; cases e'
    subst h0
    exact run_convert_bytes_nil w 22 5 Try.underlying22 Try.underlying5 0 c 9 Try.underlying9
  | some ad =>
    rw [run_convert_bytes_string w 22 9 5 (some ad) l.length c Try.underlying22 Try.underlying5 Try.underlying9]
    have hl : (loadCells ad l.length).run Try.prog w = .ok ((l.map (fun x => ((x.toNat : Nat) : Int))).map (Value.int .u8)).toArray w := by
      have := run_loadCells_list (P := Try.prog) w ad ((l.map (fun x => ((x.toNat : Nat) : Int))).map (Value.int .u8)) (fun j v hj => by
        rw [List.map_map, List.getElem?_map, Option.map_eq_some_iff] at hj
        obtain ⟨y, hy, rfl⟩ := hj
        obtain ⟨ad', e', _, hc⟩ := h j y hy
        cases e'
        exact hc)
      simpa using this
    rw [run_bytesToString w ad l.length c _ hl]
    congr 2
    apply toL_inj
    rw [push_all, toL_ofL]; rfl

theorem some_nil (ad : Addr) (n c : Nat) (w : World) : Sem.run Try.prog (binOp BinOp.eql 22 (.slice (some ad) n c) (.slice none 0 0)) w = .ok (.bool false) w := by kernel_rfl
theorem none_nil (w : World) : Sem.run Try.prog (binOp BinOp.eql 22 (.slice none 0 0) (.slice none 0 0)) w = .ok (.bool true) w := by kernel_rfl
theorem RdB.of_none {w : World} {B : Nat} {l : List UInt8} (h : RdB w B none l) : l = [] := by
  cases l with
  | nil => rfl
  | cons y r => obtain ⟨ad, e', _⟩ := h 0 y rfl; cases e'

set_option maxHeartbeats 1000000 in
theorem clone_any (A : Option Addr) (l : List UInt8) (c : Nat) (w : World) (hR : RdB w w.heap.size A l) (hc : Caps A l.length c) (hl : l.length ≤ 1000000) :
    Calls Try.prog 42 #[.slice A l.length c] w (Bytes w l) := by
  obtain ⟨i0, hi, hz0, hz1, hz2⟩ := info_parts info_byte
  cases A with
  | none =>
    obtain rfl := hR.of_none
    obtain rfl := hc.2 rfl
    have hrun := none_nil
    go_enter Try.func42, Try.ntmps42
    go_wp2_with fail
    refine bodyPost_ret (results_tmp rfl _ _ _) rfl ⟨none, 0, rfl, ⟨Nat.le_refl _, fun _ => rfl⟩, RdB.nil _ _ _, Below.refl _ _⟩
  | some ad =>
    have hrun := some_nil ad l.length c
    have hO := World.ownsRow_lit (base := w.heap.size) (e := 5) (size := 1) w #[] 0 (Nat.le_refl _) (by decide) rfl
    have hR2 := hR.step ((Below.refl _ w).alloc (Nat.le_refl _) (.cells #[] 5))
    have hB : Below w.heap.size w (w.alloc (.cells #[] 5)) := (Below.refl _ w).alloc (Nat.le_refl _) _
    have hl2 : (l.length : Int) ≤ 1000000 := by omega
    go_enter Try.func42, Try.ntmps42
    go_wp2_with (at_builtin; refine wpList_append_bytes rfl _ _ 22 rfl w.heap.size 5 i0 Try.underlying22 hi hz0 hz1 hz2 _ 0 [] rfl hO (some ad) _ c _ l rfl rfl hR2 (by unfold maxLen; omega) (by omega) (by simp) ?_)
    intro v' w' hO3 hg3
    obtain ⟨A, cc, rfl⟩ := ownsRow_slice hO3
    have hB' := hB.grown hg3 hB.size (fun r e => (hO.lt r e).1)
    go_wp2_with fail
    refine bodyPost_ret (results_tmp rfl _ _ _) rfl ⟨A, cc, rfl, ownsRow_caps hO3, RdB.own hO3, hB'⟩

theorem Bytes.back {w w1 w' : World} {l : List UInt8} {e : Ending} (h : Bytes w1 l e w') (hb : Below w.heap.size w w1) : Bytes w l e w' := by
  obtain ⟨A, c, h1, h2, h3, h4⟩ := h
  exact ⟨A, c, h1, h2, h3, hb.trans (h4.mono hb.size)⟩
theorem cat_two (A B : Option Addr) (l m : List UInt8) (c d : Nat) (w : World) (hA : RdB w w.heap.size A l) (hB : RdB w w.heap.size B m) (hl : l.length ≤ 1000000) (hm : m.length ≤ 1000000) (t : TypeId) :
    Calls Try.prog 55 #[.slice (some ⟨w.heap.size, 0, none⟩) 2 2] (w.alloc (.cells #[.slice A l.length c, .slice B m.length d] t)) (Bytes w (l ++ m)) := by
  have hnew := World.alloc_heap_new w (Obj.cells #[.slice A l.length c, .slice B m.length d] t)
  have hb : Below w.heap.size w (w.alloc (.cells #[.slice A l.length c, .slice B m.length d] t)) := (Below.refl _ w).alloc (Nat.le_refl _) _
  have h := concat_any w.heap.size 2 [(A, l, c), (B, m, d)] (w.alloc (.cells #[.slice A l.length c, .slice B m.length d] t)) (fun k x hx => by
    rcases k with _ | _ | k
    · simp at hx; subst hx; exact cell_of_row _ _ _ _ _ _ hnew
    · simp at hx; subst hx; exact cell_of_row _ _ _ _ _ _ hnew
    · simp at hx) (by simp) (fun x hx => by
    simp at hx
    rcases hx with rfl | rfl
    · exact hA.step hb
    · exact hB.step hb) (by simp) (fun x hx => by
    simp at hx
    rcases hx with rfl | rfl <;> assumption)
  refine h.mono fun e w' hw => ?_
  have e1 : allB [(A, l, c), (B, m, d)] = l ++ m := by simp [allB]
  rw [e1] at hw
  exact hw.back hb
theorem cat_three (A B D : Option Addr) (l m r : List UInt8) (c d f : Nat) (w : World) (hA : RdB w w.heap.size A l) (hB : RdB w w.heap.size B m) (hD : RdB w w.heap.size D r) (hl : l.length ≤ 1000000) (hm : m.length ≤ 1000000) (hr : r.length ≤ 1000000) (t : TypeId) :
    Calls Try.prog 55 #[.slice (some ⟨w.heap.size, 0, none⟩) 3 3] (w.alloc (.cells #[.slice A l.length c, .slice B m.length d, .slice D r.length f] t)) (Bytes w (l ++ m ++ r)) := by
  have hnew := World.alloc_heap_new w (Obj.cells #[.slice A l.length c, .slice B m.length d, .slice D r.length f] t)
  have hb : Below w.heap.size w (w.alloc (.cells #[.slice A l.length c, .slice B m.length d, .slice D r.length f] t)) := (Below.refl _ w).alloc (Nat.le_refl _) _
  have h := concat_any w.heap.size 3 [(A, l, c), (B, m, d), (D, r, f)] (w.alloc (.cells #[.slice A l.length c, .slice B m.length d, .slice D r.length f] t)) (fun k x hx => by
    rcases k with _ | _ | _ | k
    · simp at hx; subst hx; exact cell_of_row _ _ _ _ _ _ hnew
    · simp at hx; subst hx; exact cell_of_row _ _ _ _ _ _ hnew
    · simp at hx; subst hx; exact cell_of_row _ _ _ _ _ _ hnew
    · simp at hx) (by simp) (fun x hx => by
    simp at hx
    rcases hx with rfl | rfl | rfl
    · exact hA.step hb
    · exact hB.step hb
    · exact hD.step hb) (by simp) (fun x hx => by
    simp at hx
    rcases hx with rfl | rfl | rfl <;> assumption)
  refine h.mono fun e w' hw => ?_
  have e1 : allB [(A, l, c), (B, m, d), (D, r, f)] = l ++ m ++ r := by simp [allB]
  rw [e1] at hw
  exact hw.back hb
theorem groupsL_le (n : Nat) : (groupsL n).length ≤ 10 := groups_le 9 n

set_option maxHeartbeats 1000000 in
theorem putNum_any (A : Option Addr) (l : List UInt8) (c n : Nat) (w : World) (hR : RdB w w.heap.size A l) (hl : l.length ≤ 1000000) (hn : n < 18446744073709551616) :
    Calls Try.prog 36 #[.slice A l.length c, .int .u64 n] w (Bytes w (l ++ groupsL n)) := by
  go_enter Try.func36, Try.ntmps36
  go_wp2_with fail
  refine (groups_any n w hn).mono ?_
  rintro e w1 ⟨G, gc, rfl, _, hG, hB1⟩
  have hR1 := hR.step hB1
  have hgl := groupsL_le n
  go_wp2_with fail
  refine (cat_two A G l (groupsL n) c gc w1 hR1 hG hl (by omega) _).mono ?_
  rintro e w2 hw2
  obtain ⟨D, d, rfl, h2, h3, h4⟩ := hw2.back hB1
  go_wp2_with fail
  refine bodyPost_ret (results_tmp rfl _ _ _) rfl ⟨D, d, by simp only [List.length_append]; rfl, h2, h3, h4⟩

/-- A text's bytes: they read so behind the conversion. -/
theorem made_bytes (w : World) (s : ByteArray) : RdB (Lib.bytesWorld w 5 s) (Lib.bytesWorld w 5 s).heap.size (some ⟨w.heap.size, 0, none⟩) (toL s) ∧ Below w.heap.size w (Lib.bytesWorld w 5 s) := by
  have hnew := Lib.bytesWorld_at_new w 5 s
  constructor
  · intro k x hx
    refine ⟨_, rfl, (Array.getElem?_eq_some_iff.1 hnew).1, ?_⟩
    have hk : k < s.size := by have := (List.getElem?_eq_some_iff.1 hx).1; simpa [toL] using this
    have hcell : (Lib.bytesCells w 5 s)[k]? = some (byteV x) := by
      unfold Lib.bytesCells
      rw [Array.getElem?_append_left (by simpa using hk)]
      have : s.data[k]? = some x := by rw [← hx]; simp [toL]
      simp [this, byteV]
    have e : ((⟨w.heap.size, 0, none⟩ : Addr).add k) = ⟨w.heap.size, k, none⟩ := by unfold Addr.add; split <;> simp_all
    rw [e]
    unfold World.cell?
    rw [hnew]
    simpa using hcell
  · exact ⟨rfl, rfl, rfl, by
      have := (Array.getElem?_eq_some_iff.1 hnew).1; omega, fun k hk => Lib.bytesWorld_at_old w 5 s k hk⟩

set_option maxHeartbeats 1000000 in
theorem putText_any (A : Option Addr) (l : List UInt8) (c : Nat) (s : ByteArray) (w : World) (hR : RdB w w.heap.size A l) (hl : l.length ≤ 1000000) (hs : s.size ≤ 1000000) :
    Calls Try.prog 37 #[.slice A l.length c, .string s] w (Bytes w (l ++ (groupsL s.size ++ toL s))) := by
  have hsl : (toL s).length = s.size := by simp [toL]
  have hsi : (s.size : Int) ≤ 1000000 := by omega
  go_enter Try.func37, Try.ntmps37
  go_wp2_with fail
  refine (groups_any s.size w (by omega)).mono ?_
  rintro e w1 ⟨G, gc, rfl, _, hG, hB1⟩
  have hR1 := hR.step hB1
  have hgl := groupsL_le s.size
  have hrun := Lib.run_convert_string_bytes (P := Try.prog) w1 9 22 5 s Try.underlying9 Try.underlying22 Try.underlying5
  obtain ⟨hM, hBM⟩ := made_bytes w1 s
  have hR2 := hR1.step hBM
  have hG2 := hG.step hBM
  have hB2 := hB1.trans (hBM.mono hB1.size)
  generalize Lib.bytesWorld w1 5 s = w2 at hrun hM hBM hR2 hG2 hB2
  generalize grownCap w1 s.size 0 5 = K at hrun
  go_wp2_with fail
  have hcat := cat_three A G (some ⟨w1.heap.size, 0, none⟩) l (groupsL s.size) (toL s) c gc K w2 hR2 hG2 hM hl (by omega) (by omega) 22
  rw [hsl, List.append_assoc] at hcat
  refine hcat.mono ?_
  rintro e w3 hw3
  obtain ⟨D, d, rfl, h2, h3, h4⟩ := hw3.back hB2
  go_wp2_with fail
  refine bodyPost_ret (results_tmp rfl _ _ _) rfl ⟨D, d, by simp only [List.length_append, hsl]; rfl, h2, h3, h4⟩
end Go.Proofs.Ytpefcadlejcbbaa
