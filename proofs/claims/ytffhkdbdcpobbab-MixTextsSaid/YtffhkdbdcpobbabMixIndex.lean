/-
  strings.IndexByte in the digits; the reference's Parse.
-/
import Derived.Test.YtffhkdbdcpobbabMixNum
import Derived.Lib.Walk
import Derived.Lib.Strings
import Derived.Lib.Bytealg
namespace Go.Proofs.Ytffhkdbdcpobbab
open Go.RowKit
set_option maxRecDepth 100000

set_option maxHeartbeats 1000000 in
theorem lite_any (s : ByteArray) (c : Int) (w : World) :
    Calls Try.prog 22 #[.string s, .int .u8 c] w fun e w' => e = .returned (.int .i64 (Lib.indexByte s.data.toList c.toNat.toUInt8)) ∧ w' = w := by
  go_enter Try.func22, Try.ntmps22
  go_wp2_with fail
  rw [run_callFunc_extern Try.func25 (by kernel_rfl) (by kernel_rfl) (by kernel_rfl) (e := Extern.BytealgIndexByte.indexByte) (by kernel_rfl), Lib.run_indexByteString]
  simp only [Result.andThen]
  rw [Oper.upon_value]
  go_wp2_with fail
  exact bodyPost_ret (results_tmp rfl _ _ _) rfl ⟨rfl, rfl⟩
/-- A digit's place. -/
def digI (x : UInt8) : Int := match dig x with | some d => (d : Nat) | none => -1
theorem index_dig (x : UInt8) : Lib.indexByte digitsB.data.toList ((x.toNat : Nat) : Int).toNat.toUInt8 = digI x := by
  have hc : ∀ k : Fin 256, Lib.indexByte digitsB.data.toList (k.val : Nat).toUInt8 = digI (UInt8.ofNat k.val) := by decide +kernel
  have h := hc ⟨x.toNat, x.toNat_lt⟩
  simpa using h
set_option maxHeartbeats 1000000 in
theorem index_any (x : UInt8) (w : World) :
    Calls Try.prog 13 #[.string ⟨#[48, 49, 50, 51, 52, 53, 54, 55, 56, 57, 97, 98, 99, 100, 101, 102]⟩, .int .u8 (x.toNat : Nat)] w fun e w' => e = .returned (.int .i64 (digI x)) ∧ w' = w := by
  have h := fun W => lite_any ⟨#[48, 49, 50, 51, 52, 53, 54, 55, 56, 57, 97, 98, 99, 100, 101, 102]⟩ (x.toNat : Nat) W
  have hi := index_dig x
  unfold digitsB at hi
  rw [hi] at h
  go_enter Try.func13, Try.ntmps13
  go_wp2_with fail
  refine (h _).mono ?_
  rintro e w2 ⟨rfl, rfl⟩
  go_wp2_with fail
  exact bodyPost_ret (results_tmp rfl _ _ _) rfl ⟨rfl, rfl⟩
/-- What a text is read as. -/
def parseL (l : List UInt8) : Option (Nat × Nat) := if l.length ≠ 32 then none else match numF (l.take 16) 0, numF (l.drop 16) 0 with
  | some a, some b => some (a, b)
  | _, _ => none
theorem ofL_take (l : List UInt8) (k : Nat) : (ofL l).extract 0 k = ofL (l.take k) := by
  apply toL_inj
  simp [toL, ofL]
theorem ofL_drop (l : List UInt8) (k n : Nat) (h : l.length = n) : (ofL l).extract k n = ofL (l.drop k) := by
  apply toL_inj
  simp [toL, ofL, ← h, List.take_of_length_le]

set_option maxHeartbeats 2000000 in
theorem refParse_any (l : List UInt8) (w : World) :
    Calls Try.prog 9 #[.string (ofL l)] w fun e w' => e = .returned (.tuple #[stV ((parseL l).getD (0, 0)), .bool (parseL l).isSome]) ∧ Below w.heap.size w w' := by
  have hsz := hofL_size l
  have hB : Below w.heap.size w (w.alloc (.cells #[.int .u64 0, .int .u64 0] 26)) := (Below.refl _ w).alloc (Nat.le_refl _) _
  have s1 := World.alloc_heap_new w (Obj.cells #[.int .u64 0, .int .u64 0] 26)
  by_cases h32 : l.length = 32
  · have hs : ((ofL l).size : Int) = 32 := by omega
    have e1 := ofL_take l 16
    have e2 := ofL_drop l 16 32 h32
    have n1 := fun W => number_any (l.take 16) W (by rw [List.length_take]; omega)
    have n2 := fun W => number_any (l.drop 16) W (by rw [List.length_drop]; omega)
    have HP := hide (show parseL l = match numF (l.take 16) 0, numF (l.drop 16) 0 with | some a, some b => some (a, b) | _, _ => none by unfold parseL; rw [if_neg (by omega)])
    rw [HP.out]
    clear HP h32
    have hs2 : (ofL l).size = 32 := by omega
    have e3 : (ofL l).extract 16 (ofL l).size = ofL (l.drop 16) := by rw [hs2]; exact e2
    generalize ofL (l.take 16) = xa at e1 n1
    generalize ofL (l.drop 16) = xb at e2 e3 n2
    generalize numF (l.take 16) 0 = o1 at n1 ⊢
    generalize numF (l.drop 16) 0 = o2 at n2 ⊢
    generalize ofL l = sl at hs e1 e2 e3 hs2 ⊢
    clear hsz
    rcases o1 with _ | a
    · simp only [Option.getD, Option.isSome] at n1
      rcases o2 with _ | b
      · simp only [Option.getD, Option.isSome] at n2
        go_enter Try.func9, Try.ntmps9
        go_wp2_with fail
        generalize (w.alloc (.cells #[.int .u64 0, .int .u64 0] 26)) = w2 at hB s1 ⊢
        have d0 : w2.cell? ⟨w.heap.size, 0, none⟩ = some (.int .u64 0) := cell_of_row _ _ _ _ _ _ s1
        have d1 : w2.cell? ⟨w.heap.size, 1, none⟩ = some (.int .u64 0) := cell_of_row _ _ _ _ _ _ s1
        have z0 : w2.frozen? ⟨w.heap.size, 0, none⟩ = false := frozen_of_row _ _ _ _ _ s1
        have z1 : w2.frozen? ⟨w.heap.size, 1, none⟩ = false := frozen_of_row _ _ _ _ _ s1
        have HX := hide (set_two w w2 w.heap.size _ _ (.int .u64 0) (.int .u64 0) _ s1 (Nat.le_refl _) hB)
        clear s1 hB
        refine (n1 _).mono ?_
        rintro e w3 ⟨rfl, rfl⟩
        go_wp2_with fail
        refine (n2 _).mono ?_
        rintro e w3 ⟨rfl, rfl⟩
        go_wp2_with fail
        obtain ⟨y0, y1, hBf⟩ := HX.out
        refine bodyPost_ret (v := .tuple #[.agg #[.int .u64 0, .int .u64 0], .bool false]) (by simp [results, Try.results9, go_sem, y0, y1]) rfl ⟨rfl, hBf⟩
      · simp only [Option.getD, Option.isSome] at n2
        go_enter Try.func9, Try.ntmps9
        go_wp2_with fail
        generalize (w.alloc (.cells #[.int .u64 0, .int .u64 0] 26)) = w2 at hB s1 ⊢
        have d0 : w2.cell? ⟨w.heap.size, 0, none⟩ = some (.int .u64 0) := cell_of_row _ _ _ _ _ _ s1
        have d1 : w2.cell? ⟨w.heap.size, 1, none⟩ = some (.int .u64 0) := cell_of_row _ _ _ _ _ _ s1
        have z0 : w2.frozen? ⟨w.heap.size, 0, none⟩ = false := frozen_of_row _ _ _ _ _ s1
        have z1 : w2.frozen? ⟨w.heap.size, 1, none⟩ = false := frozen_of_row _ _ _ _ _ s1
        have HX := hide (set_two w w2 w.heap.size _ _ (.int .u64 0) (.int .u64 0) _ s1 (Nat.le_refl _) hB)
        clear s1 hB
        refine (n1 _).mono ?_
        rintro e w3 ⟨rfl, rfl⟩
        go_wp2_with fail
        refine (n2 _).mono ?_
        rintro e w3 ⟨rfl, rfl⟩
        go_wp2_with fail
        obtain ⟨y0, y1, hBf⟩ := HX.out
        refine bodyPost_ret (v := .tuple #[.agg #[.int .u64 0, .int .u64 0], .bool false]) (by simp [results, Try.results9, go_sem, y0, y1]) rfl ⟨rfl, hBf⟩
    · simp only [Option.getD, Option.isSome] at n1
      rcases o2 with _ | b
      · simp only [Option.getD, Option.isSome] at n2
        go_enter Try.func9, Try.ntmps9
        go_wp2_with fail
        generalize (w.alloc (.cells #[.int .u64 0, .int .u64 0] 26)) = w2 at hB s1 ⊢
        have d0 : w2.cell? ⟨w.heap.size, 0, none⟩ = some (.int .u64 0) := cell_of_row _ _ _ _ _ _ s1
        have d1 : w2.cell? ⟨w.heap.size, 1, none⟩ = some (.int .u64 0) := cell_of_row _ _ _ _ _ _ s1
        have z0 : w2.frozen? ⟨w.heap.size, 0, none⟩ = false := frozen_of_row _ _ _ _ _ s1
        have z1 : w2.frozen? ⟨w.heap.size, 1, none⟩ = false := frozen_of_row _ _ _ _ _ s1
        have HX := hide (set_two w w2 w.heap.size _ _ (.int .u64 0) (.int .u64 0) _ s1 (Nat.le_refl _) hB)
        clear s1 hB
        refine (n1 _).mono ?_
        rintro e w3 ⟨rfl, rfl⟩
        go_wp2_with fail
        refine (n2 _).mono ?_
        rintro e w3 ⟨rfl, rfl⟩
        go_wp2_with fail
        obtain ⟨y0, y1, hBf⟩ := HX.out
        refine bodyPost_ret (v := .tuple #[.agg #[.int .u64 0, .int .u64 0], .bool false]) (by simp [results, Try.results9, go_sem, y0, y1]) rfl ⟨rfl, hBf⟩
      · simp only [Option.getD, Option.isSome] at n2
        go_enter Try.func9, Try.ntmps9
        go_wp2_with fail
        generalize (w.alloc (.cells #[.int .u64 0, .int .u64 0] 26)) = w2 at hB s1 ⊢
        have d0 : w2.cell? ⟨w.heap.size, 0, none⟩ = some (.int .u64 0) := cell_of_row _ _ _ _ _ _ s1
        have d1 : w2.cell? ⟨w.heap.size, 1, none⟩ = some (.int .u64 0) := cell_of_row _ _ _ _ _ _ s1
        have z0 : w2.frozen? ⟨w.heap.size, 0, none⟩ = false := frozen_of_row _ _ _ _ _ s1
        have z1 : w2.frozen? ⟨w.heap.size, 1, none⟩ = false := frozen_of_row _ _ _ _ _ s1
        have HX := hide (set_two w w2 w.heap.size _ _ (.int .u64 (a : Nat)) (.int .u64 (b : Nat)) _ s1 (Nat.le_refl _) hB)
        clear s1 hB
        refine (n1 _).mono ?_
        rintro e w3 ⟨rfl, rfl⟩
        go_wp2_with fail
        refine (n2 _).mono ?_
        rintro e w3 ⟨rfl, rfl⟩
        go_wp2_with fail
        obtain ⟨y0, y1, hBf⟩ := HX.out
        refine bodyPost_ret (v := .tuple #[.agg #[.int .u64 (a : Nat), .int .u64 (b : Nat)], .bool true]) (by simp [results, Try.results9, go_sem, y0, y1]) rfl ⟨rfl, hBf⟩
  · have HP := hide (show parseL l = none by unfold parseL; rw [if_pos h32])
    have hs : (((ofL l).size : Int) != 32) = true := by rw [bne_iff_ne]; omega
    rw [HP.out]
    clear HP h32
    generalize ofL l = sl at hs ⊢
    clear hsz
    go_enter Try.func9, Try.ntmps9
    go_wp2_with fail
    refine bodyPost_ret (v := .tuple #[.agg #[.int .u64 0, .int .u64 0], .bool false]) (by simp [results, Try.results9, go_sem]) rfl ⟨rfl, hB⟩
end Go.Proofs.Ytffhkdbdcpobbab
