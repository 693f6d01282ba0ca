import Derived.Test.YtakjpgjcfecfiaaDoorEncB
/- The bytes of a record: what EncodeRecord's steps come to. -/
namespace Go.Proofs.YtakjpgjcfecfiaaDoor
open Go.RowKit

theorem zeros (k v : Nat) : List.replicate (16 + k + v) (0 : UInt8) = List.replicate 4 0 ++ (List.replicate 8 0 ++ (0 :: ([0] ++ ([0, 0] ++ (List.replicate k 0 ++ (List.replicate v 0 ++ [])))))) := by
  have h : ∀ a b : Nat, List.replicate (a + b) (0 : UInt8) = List.replicate a 0 ++ List.replicate b 0 := fun a b => by simp
  rw [show 16 + k + v = 4 + (8 + (1 + (1 + (2 + (k + v))))) by omega, h, h, h, h, h, h]
  simp [List.replicate]

theorem encL_eq (seq : Nat) (k v : ByteArray) (d : Bool) : encL seq k v (16 + k.size + v.size) d = recBytes seq k v d := by
  have e1 : encL1 seq (16 + k.size + v.size) = List.replicate 4 0 ++ (be 8 seq ++ (0 :: ([0] ++ ([0, 0] ++ (List.replicate k.size 0 ++ (List.replicate v.size 0 ++ [])))))) := by
    rw [encL1, zeros]; exact splice_mid _ _ _ _ _ (by simp) (by simp [be_length])
  have e2 : encL2 seq (16 + k.size + v.size) d = (List.replicate 4 0 ++ (be 8 seq ++ [if d = true then 1 else 0])) ++ ([0] ++ ([0, 0] ++ (List.replicate k.size 0 ++ (List.replicate v.size 0 ++ [])))) := by
    rw [encL2, e1]
    cases d with
    | false => simp
    | true =>
      rw [if_pos rfl, ← List.append_assoc, set_mid _ _ _ _ _ (by simp [be_length])]; simp
  have e3 : encL3 seq k (16 + k.size + v.size) d = ((List.replicate 4 0 ++ (be 8 seq ++ [if d = true then 1 else 0])) ++ be 1 k.size) ++ ([0, 0] ++ (List.replicate k.size 0 ++ (List.replicate v.size 0 ++ []))) := by
    rw [encL3, e2, splice_mid _ _ _ _ _ (by simp [be_length]) (by simp [be_length])]; simp only [List.append_assoc]
  have e4 : encL4 seq k v (16 + k.size + v.size) d = (((List.replicate 4 0 ++ (be 8 seq ++ [if d = true then 1 else 0])) ++ be 1 k.size) ++ be 2 v.size) ++ (List.replicate k.size 0 ++ (List.replicate v.size 0 ++ [])) := by
    rw [encL4, e3, splice_mid _ _ _ _ _ (by simp [be_length]) (by simp [be_length])]; simp only [List.append_assoc]
  have e5 : encL5 seq k v (16 + k.size + v.size) d = ((((List.replicate 4 0 ++ (be 8 seq ++ [if d = true then 1 else 0])) ++ be 1 k.size) ++ be 2 v.size) ++ k.data.toList) ++ (List.replicate v.size 0 ++ []) := by
    rw [encL5, e4, splice_mid _ _ _ _ _ (by simp [be_length]) (by simp)]; simp only [List.append_assoc]
  have e6 : encL6 seq k v (16 + k.size + v.size) d = List.replicate 4 0 ++ recBody seq k v d := by
    rw [encL6, e5, splice_mid _ _ _ _ _ (by simp [be_length]; omega) (by simp)]
    simp [recBody]
  have e7 : (encL6 seq k v (16 + k.size + v.size) d).drop 4 = recBody seq k v d := by rw [e6]; exact List.drop_left' (by simp)
  rw [encL, e7, e6, recBytes]
  exact splice_mid [] (List.replicate 4 0) (recBody seq k v d) (be 4 (crc (recBody seq k v d))) 0 rfl (by simp [be_length])

theorem encodeRecord_ok (seq : Nat) (k v : ByteArray) (d : Bool) (w : World) (hs : seq < 18446744073709551616) (hkey : keyOk k = true) (hval : valOk v d = true) :
    Calls Tryd.prog 16 #[.agg #[.int .u64 (seq : Int), .string k, .string v, .bool d]] w fun e w' =>
      ∃ g, e = .returned (.tuple #[.slice (some ⟨g, 0, none⟩) (16 + k.size + v.size) (16 + k.size + v.size), .nilIface]) ∧
      Own w' w.heap.size (.slice (some ⟨g, 0, none⟩) (16 + k.size + v.size) (16 + k.size + v.size)) (16 + k.size + v.size) (recBytes seq k v d) ∧ Below w.heap.size w w' := by
  refine (encodeRecord_ok0 seq k v d w hs hkey hval).mono ?_
  rintro e w' ⟨rfl, st⟩
  refine ⟨_, rfl, ?_, st.below⟩
  rw [← encL_eq]
  exact st.own.mono (by omega)

set_option maxHeartbeats 400000 in
theorem encodeRecord_key (seq : Nat) (k v : ByteArray) (d : Bool) (w : World) (hk : k.size ≤ 100000) (h : keyOk k = false) :
    Calls Tryd.prog 16 #[.agg #[.int .u64 (seq : Int), .string k, .string v, .bool d]] w fun e w' =>
      e = .returned (.tuple #[.slice none 0 0, .iface 30 (.int .i64 1)]) ∧ Below w.heap.size w w' := by
  go_enter Tryd.func16, Tryd.ntmps16
  go_wp2_with (go_at_call 28; refine (check_key _ _ _ _ _ hk h).mono ?_; rintro e w' ⟨rfl, rfl⟩)
  go_ret2
  exact ⟨rfl, ((Below.refl _ w).alloc (Nat.le_refl _) _).alloc (by simp) _⟩
set_option maxHeartbeats 400000 in
theorem encodeRecord_val (seq : Nat) (k v : ByteArray) (d : Bool) (w : World) (hk : k.size ≤ 100000) (hv : v.size ≤ 100000) (hkey : keyOk k = true) (h : valOk v d = false) :
    Calls Tryd.prog 16 #[.agg #[.int .u64 (seq : Int), .string k, .string v, .bool d]] w fun e w' =>
      e = .returned (.tuple #[.slice none 0 0, .iface 30 (.int .i64 2)]) ∧ Below w.heap.size w w' := by
  go_enter Tryd.func16, Tryd.ntmps16
  go_wp2_with (go_at_call 28; refine (check_val _ _ _ _ _ hk hv hkey h).mono ?_; rintro e w' ⟨rfl, rfl⟩)
  go_ret2
  exact ⟨rfl, ((Below.refl _ w).alloc (Nat.le_refl _) _).alloc (by simp) _⟩
end Go.Proofs.YtakjpgjcfecfiaaDoor
