import Derived.Test.YtakjpgjcfecfiaaDoorDecR
/- DecodeRecord and keydir.Decode: just what could have been written is read. -/
namespace Go.Proofs.YtakjpgjcfecfiaaDoor
open Go.RowKit

theorem take_beq {l m : List UInt8} {a b : Nat} (h : a = b) (e : m = l.take a) : l.take b = m := by subst h; exact e.symm

theorem decodeRecord_bad (a : Option Addr) (cap n : Nat) (l : List UInt8) (w : World) (hl : l.length = n) (hn : n ≤ 1000000) (hcap : n < cap) (hcm : cap ≤ 9223372036854775807) (hb : Bs w a l) (h : decOk l = false) :
    Calls Tryd.prog 35 #[.slice a n cap] w fun e w' => e = .returned (.tuple #[zrec, .int .i64 0, .iface 30 (.int .i64 3)]) ∧ Below w.heap.size w w' := by
  by_cases h16 : n < 16
  · exact decode_no1 a cap n w (fun W _ => split_short a cap n W h16)
  · obtain ⟨b, o, rfl, _⟩ := hb 0 (by omega)
    cases hs : splitOk l with
    | false => exact decode_no1 _ cap n w (fun W hW => split_no b o cap n l W hl (by omega) hn (by omega) hcm (hb.kept hW (Nat.le_refl _)) hs)
    | true =>
      have h' : 16 ≤ l.length ∧ kl l ≤ 16 ∧ vl l ≤ 64 ∧ 16 + kl l + vl l ≤ l.length := of_decide_eq_true hs
      have hsp : ∀ W, Below w.heap.size w W → _ := fun W hW => split_ok b o cap n l W hl (by omega) hn hcap hcm (hb.kept hW (Nat.le_refl _)) hs
      have hks := dkey_size l h'.2.2.2
      have hvs := dval_size l h'.2.2.2
      cases hk : keyOk (dkey l) with
      | false => exact decode_no2 _ cap n (dseq l) (dkey l) (dval l) (ddel l) 1 w hsp (fun W => encodeRecord_key _ _ _ _ W (by omega) hk)
      | true =>
        cases hv : valOk (dval l) (ddel l) with
        | false => exact decode_no2 _ cap n (dseq l) (dkey l) (dval l) (ddel l) 2 w hsp (fun W => encodeRecord_val _ _ _ _ W (by omega) (by omega) hk hv)
        | true =>
          have hiff := dec_iff l hs
          refine decode_no3 b o cap n (dseq l) (16 + (dkey l).size + (dval l).size) l (recBytes (dseq l) (dkey l) (dval l) (ddel l)) (dkey l) (dval l) (ddel l) w hl (recBytes_length _ _ _ _) (by omega) hn (by omega) hcm ?_ hb hsp (fun W => encodeRecord_ok _ _ _ _ W (dseq_lt l) hk hv)
          intro e
          rw [hks, hvs] at e
          rw [hiff.1 ⟨hk, hv, e.symm⟩] at h
          cases h

theorem decodeRecord_good (a : Option Addr) (cap n : Nat) (l : List UInt8) (w : World) (hl : l.length = n) (hn : n ≤ 1000000) (hcap : n < cap) (hcm : cap ≤ 9223372036854775807) (hb : Bs w a l) (h : decOk l = true) :
    Calls Tryd.prog 35 #[.slice a n cap] w fun e w' =>
      e = .returned (.tuple #[.agg #[.int .u64 (dseq l : Nat), .string (dkey l), .string (dval l), .bool (ddel l)], .int .i64 ((16 + kl l + vl l : Nat) : Int), .nilIface]) ∧ Below w.heap.size w w' := by
  have hs : splitOk l = true := by unfold decOk at h; exact (Bool.and_eq_true_iff.1 h).1
  have h' : 16 ≤ l.length ∧ kl l ≤ 16 ∧ vl l ≤ 64 ∧ 16 + kl l + vl l ≤ l.length := of_decide_eq_true hs
  obtain ⟨b, o, rfl, _⟩ := hb 0 (by omega)
  have hsp : ∀ W, Below w.heap.size w W → _ := fun W hW => split_ok b o cap n l W hl (by omega) hn hcap hcm (hb.kept hW (Nat.le_refl _)) hs
  have hks := dkey_size l h'.2.2.2
  have hvs := dval_size l h'.2.2.2
  obtain ⟨hk, hv, e⟩ := (dec_iff l hs).2 h
  have := decode_yes b o cap n (dseq l) (16 + (dkey l).size + (dval l).size) l (recBytes (dseq l) (dkey l) (dval l) (ddel l)) (dkey l) (dval l) (ddel l) w hl (recBytes_length _ _ _ _) (by omega) hn (by omega) hcm (take_beq (by rw [hks, hvs]) e) hb hsp (fun W => encodeRecord_ok _ _ _ _ W (dseq_lt l) hk hv)
  rw [hks, hvs] at this
  exact this

set_option maxHeartbeats 400000 in
theorem decode_wrap (a : Option Addr) (cap n sq : Nat) (ks vs : ByteArray) (d : Bool) (N : Int) (er : Value) (w : World)
    (he : ∀ W, Below w.heap.size w W → Calls Tryd.prog 35 #[.slice a n cap] W fun e w' => e = .returned (.tuple #[.agg #[.int .u64 (sq : Int), .string ks, .string vs, .bool d], .int .i64 N, er]) ∧ Below W.heap.size W w') :
    Calls Tryd.prog 21 #[.slice a n cap] w fun e w' => e = .returned (.tuple #[.agg #[.int .u64 (sq : Int), .string ks, .string vs, .bool d], .int .i64 N, er]) ∧ Below w.heap.size w w' := by
  have hB : Below w.heap.size w (w.alloc Z24) := (Below.refl _ w).alloc (Nat.le_refl _) _
  have z0 := ZB.start w
  go_enter Tryd.func21, Tryd.ntmps21
  go_wp2_with fail
  refine (he _ hB).mono ?_
  rintro e w1 ⟨rfl, hb1⟩
  obtain ⟨q0, q1, q2, q3, f0, f1, f2, f3⟩ := z0.step hb1 (by simp)
  have hsz : w.heap.size < w1.heap.size := by have := hb1.size; simp at this; omega
  have hB1 : Below w.heap.size w w1 := hB.trans (hb1.mono (by simp))
  clear hb1 he z0 hB
  go_wp2
  refine bodyPost_ret (v := .tuple #[.agg #[.int .u64 (sq : Int), .string ks, .string vs, .bool d], .int .i64 N, er]) ?_ rfl ⟨rfl, ?_⟩
  · simp [results, Tryd.results21, go_sem, q0, q1, q2, q3]
  · exact (((hB1.setCell (Nat.le_refl _) _).setCell (Nat.le_refl _) _).setCell (Nat.le_refl _) _).setCell (Nat.le_refl _) _

theorem decode_bad (a : Option Addr) (cap n : Nat) (l : List UInt8) (w : World) (hl : l.length = n) (hn : n ≤ 1000000) (hcap : n < cap) (hcm : cap ≤ 9223372036854775807) (hb : Bs w a l) (h : decOk l = false) :
    Calls Tryd.prog 21 #[.slice a n cap] w fun e w' => e = .returned (.tuple #[zrec, .int .i64 0, .iface 30 (.int .i64 3)]) ∧ Below w.heap.size w w' :=
  decode_wrap a cap n 0 ⟨#[]⟩ ⟨#[]⟩ false 0 _ w (fun W hW => decodeRecord_bad a cap n l W hl hn hcap hcm (hb.kept hW (Nat.le_refl _)) h)
theorem decode_good (a : Option Addr) (cap n : Nat) (l : List UInt8) (w : World) (hl : l.length = n) (hn : n ≤ 1000000) (hcap : n < cap) (hcm : cap ≤ 9223372036854775807) (hb : Bs w a l) (h : decOk l = true) :
    Calls Tryd.prog 21 #[.slice a n cap] w fun e w' =>
      e = .returned (.tuple #[.agg #[.int .u64 (dseq l : Nat), .string (dkey l), .string (dval l), .bool (ddel l)], .int .i64 ((16 + kl l + vl l : Nat) : Int), .nilIface]) ∧ Below w.heap.size w w' :=
  decode_wrap a cap n _ _ _ _ _ _ w (fun W hW => decodeRecord_good a cap n l W hl hn hcap hcm (hb.kept hW (Nat.le_refl _)) h)
end Go.Proofs.YtakjpgjcfecfiaaDoor
