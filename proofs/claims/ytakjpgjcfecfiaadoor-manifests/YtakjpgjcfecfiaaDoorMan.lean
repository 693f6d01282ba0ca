import Derived.Test.YtakjpgjcfecfiaaDoorMLaw
/- Manifests. -/
namespace Go.Proofs.YtakjpgjcfecfiaaDoor
open Go.RowKit

abbrev M45 (gen : Nat) (a : Option Addr) (n c : Nat) : Obj := .cells #[.int .u64 (gen : Int), .slice a n c] 45

set_option maxHeartbeats 400000 in
theorem write_bad (gen : Nat) (a : Option Addr) (c n : Nat) (z : List Int) (w : World) (hn : z.length = n) (hm : n ≤ 2000000) (hcap : n ≤ c) (hcm : c ≤ 9223372036854775807) (h : Is w a z) (hv : validZ z = false) :
    Calls Tryd.prog 12 #[.agg #[.int .u64 (gen : Int), .slice a n c]] w fun e w' =>
      e = .returned (.tuple #[.slice none 0 0, .iface 30 (.int .i64 4)]) ∧ Below w.heap.size w w' := by
  have hB : Below w.heap.size w (w.alloc (M45 gen a n c)) := (Below.refl _ w).alloc (Nat.le_refl _) _
  have ce := encodeManifest_bad gen a c n z (w.alloc (M45 gen a n c)) hn hm hcap hcm (h.kept hB (Nat.le_refl _)) hv
  clear hv
  go_enter Tryd.func12, Tryd.ntmps12
  go_wp2_with fail
  refine ce.mono ?_
  rintro e w' ⟨rfl, hb⟩
  have hB2 : Below w.heap.size w w' := hB.trans (hb.mono (by simp))
  clear hb ce
  go_wp2
  go_ret2
  exact ⟨rfl, hB2⟩
set_option maxHeartbeats 400000 in
theorem write_ok (gen : Nat) (a : Option Addr) (c n : Nat) (z : List Int) (w : World) (hg : gen < 18446744073709551616) (hn : z.length = n) (hcap : n ≤ c) (hcm : c ≤ 9223372036854775807) (h : Is w a z) (hv : validZ z = true) :
    Calls Tryd.prog 12 #[.agg #[.int .u64 (gen : Int), .slice a n c]] w fun e w' =>
      ∃ g, e = .returned (.tuple #[.slice (some ⟨g, 0, none⟩) (14 + 4 * n) (14 + 4 * n), .nilIface]) ∧
      Own w' w.heap.size (.slice (some ⟨g, 0, none⟩) (14 + 4 * n) (14 + 4 * n)) (14 + 4 * n) (manBytes gen z) ∧ Below w.heap.size w w' := by
  have hB : Below w.heap.size w (w.alloc (M45 gen a n c)) := (Below.refl _ w).alloc (Nat.le_refl _) _
  have ce := encodeManifest_ok gen a c n z (w.alloc (M45 gen a n c)) hg hn hcap hcm (h.kept hB (Nat.le_refl _)) hv
  clear hv
  go_enter Tryd.func12, Tryd.ntmps12
  go_wp2_with fail
  refine ce.mono ?_
  rintro e w' ⟨g, rfl, ho, hb⟩
  have hB2 : Below w.heap.size w w' := hB.trans (hb.mono (by simp))
  have ho2 := ho.mono (show w.heap.size ≤ _ by simp)
  clear hb ce ho
  go_wp2
  go_ret2
  exact ⟨g, rfl, ho2, hB2⟩

set_option maxHeartbeats 400000 in
theorem manifests_big (gen : Nat) (ai a : Option Addr) (ci ni cap n : Nat) (w : World) (hi : ni ≤ 1000000000000000) (hn : n ≤ 1000000000000000) (h : 40000 < ni + n) :
    Calls Tryd.prog 4 #[.int .u64 (gen : Int), .slice ai ni ci, .slice a n cap] w fun e w' => e = .returned (.bool true) ∧ Below w.heap.size w w' := by
  have hb : decide ((40000 : Int) < (ni : Int) + (n : Int)) = true := by simp; omega
  go_enter Tryd.func4, Tryd.ntmps4
  go_wp2
  go_ret
  exact ⟨rfl, Below.refl _ _⟩

/-- l = append(nil, ids...): the walk up to what follows it -/
theorem app_nil_ints (w : World) {ops : Array Oper} {rest : List Oper} {o : Oper} {a : Act} {Q : Exit → Act → World → Prop} (hgd : o.guard = none)
    (s x : Operand) (ho : o.op = Op.call { callee := Callee.builtin Builtin.append, args := #[s, x], argTypes := #[42, 42] })
    (hs : a.eval s = .slice none 0 0) (ai : Option Addr) (ni ci : Nat) (z : List Int) (hx : a.eval x = .slice ai ni ci) (hl : z.length = ni) (hi : Is w ai z) (hnil : ai = none → ni = 0 ∧ ci = 0) (hsz : ni ≤ 1000000)
    (h : ∀ v' w', OwnI w' w.heap.size v' ni z → Below w.heap.size w w' → wpList Tryd.prog ops Q rest (a.put o.dst v') w') :
    wpList Tryd.prog ops Q (o :: rest) a w := by
  cases ai with
  | some ad =>
    refine app_ints w hgd s x ho w.heap.size 0 _ [] hs (OwnI.nil _ _) ad ni ci z hx hl ?_ (by omega) (Nat.le_refl _) ?_
    · intro j hj
      obtain ⟨b, off, e, hc⟩ := hi j (by omega)
      cases e
      rw [Addr.add_lit]; exact hc
    · intro v' w' h1 h2
      exact h v' w' (by simpa using h1) h2
  | none =>
    obtain ⟨rfl, rfl⟩ := hnil rfl
    obtain rfl : z = [] := List.eq_nil_of_length_eq_zero hl
    obtain ⟨i0, hi0, _, _, _⟩ := info_parts Tryd.info3
    have hrun := run_append_owned_none (P := Tryd.prog) w w.heap.size 42 o.type 3 i0 1 Tryd.underlying42 hi0 _ _ _ (World.ownsRow_nil w w.heap.size 3 1)
    refine wpList_plain hgd fun K hK => ?_
    unfold Oper.wp
    simp [execOp, ho, resolve, invoke, builtin, hs, hx, hrun, Result.andThen]
    exact hK _ _ (h _ w (OwnI.nil _ _) (Below.refl _ _))

set_option maxRecDepth 100000 in
set_option maxHeartbeats 1000000 in
theorem manifests_err (gen : Nat) (ai a : Option Addr) (ci ni cap n : Nat) (z : List Int) (l : List UInt8) (w : World) (hL : Laid w) (h : ni + n ≤ 40000)
    (hzl : z.length = ni) (hz : Is w ai z) (hznil : ai = none → ni = 0 ∧ ci = 0) (hl : l.length = n) (hcap : n ≤ cap) (hcm : cap ≤ 9223372036854775807) (hb : Bs w a l) (hv : validZ z = false) :
    Calls Tryd.prog 4 #[.int .u64 (gen : Int), .slice ai ni ci, .slice a n cap] w fun e w' => e = .returned (.bool true) ∧ Below w.heap.size w w' := by
  have hb0 : decide ((40000 : Int) < (ni : Int) + (n : Int)) = false := by simp; omega
  have heq := fun W => Lib.run_eql_slice_nil (P := Tryd.prog) W 25 5 none 0 0 0 0 Tryd.underlying25
  have HV : Hid (validZ z = false) := hv
  clear hv
  go_enter Tryd.func4, Tryd.ntmps4
  go_wp2_with (at_builtin; refine app_nil_ints _ rfl _ _ rfl rfl ai ni ci z rfl hzl hz hznil ?_ ?_)
  · omega
  intro vl w1 hol hb1
  obtain ⟨la, lc, hlv, hlc, hlm, hli, hlnil⟩ := hol.shape
  rw [hlv]
  clear hlv hol
  have hs1 := hb1.size
  go_wp2_with fail
  refine (write_bad gen la lc ni z w1 hzl (by omega) hlc hlm hli HV.out).mono ?_
  rintro e w2 ⟨rfl, hb2⟩
  have hB2 : Below w.heap.size w w2 := hb1.trans (hb2.mono (by omega))
  have hli2 := hli.kept hb2 (Nat.le_refl _)
  have hs2 := hb2.size
  clear hb1 hb2 hli
  go_wp2_with fail
  refine (tell_errno 4 w2 (hL.below hB2 (Nat.le_refl _))).mono ?_
  rintro e w3 ⟨rfl, hb3⟩
  have hB3 : Below w.heap.size w w3 := hB2.trans (hb3.mono (by omega))
  have hli3 := hli2.kept hb3 (Nat.le_refl _)
  have hs3 := hb3.size
  clear hb3 hli2
  have csn := sameNumbers_yes la ai lc ci ni z w3 hzl (by omega) hli3 (hz.kept hB3 (Nat.le_refl _))
  go_wp2_with fail
  refine csn.mono ?_
  rintro e w4 ⟨rfl, q4, hw4⟩
  have hB4 : Below w.heap.size w w4 := by rw [hw4]; exact below_drewN hB3 q4
  have hs4 : w3.heap.size ≤ w4.heap.size := by rw [hw4]; exact Nat.le_refl _
  clear hw4 csn hli3
  go_wp2_with fail
  refine (refWrite_bad gen ai ci ni z w4 hzl (by omega) (hz.kept hB4 (Nat.le_refl _)) HV.out).mono ?_
  rintro e w5 ⟨rfl, hb5⟩
  have hB5 : Below w.heap.size w w5 := hB4.trans (hb5.mono (by omega))
  have hs5 := hb5.size
  clear hb5
  have csm : Calls Tryd.prog 9 #[.slice none 0 0, .slice none 0 0] w5 fun e w' => e = .returned (.bool true) ∧ ∃ n, w' = w5.drewN n := by
    have := same_any none none 0 0 [] [] w5 (by simp) (by simp) (fun i hi => by simp at hi) (fun i hi => by simp at hi)
    simpa using this
  go_wp2_with fail
  refine csm.mono ?_
  rintro e w6 ⟨rfl, nq, hw6⟩
  have hB6 : Below w.heap.size w w6 := by rw [hw6]; exact below_drewN hB5 nq
  have hs6 : w5.heap.size ≤ w6.heap.size := by rw [hw6]; exact Nat.le_refl _
  clear hw6 csm
  go_wp2_with (first | (go_at_call 10; refine (num_any _ _).mono ?_; rintro e w' ⟨rfl, rfl⟩))
  refine (manifest_any a cap n l w6 (hL.below hB6 (Nat.le_refl _)) hl (by omega) hcap hcm (hb.kept hB6 (Nat.le_refl _))).mono ?_
  rintro e w7 ⟨rfl, hb7⟩
  have hB7 : Below w.heap.size w w7 := hB6.trans (hb7.mono (by omega))
  have hs7 := hb7.size
  clear hb7
  go_wp2
  go_ret
  exact ⟨rfl, hB7⟩

set_option maxRecDepth 100000 in
set_option maxHeartbeats 1000000 in
theorem manifests_ok (gen : Nat) (hgen : gen < 18446744073709551616) (ai a : Option Addr) (ci ni cap n : Nat) (z : List Int) (l : List UInt8) (w : World) (hL : Laid w) (h : ni + n ≤ 40000)
    (hzl : z.length = ni) (hz : Is w ai z) (hznil : ai = none → ni = 0 ∧ ci = 0) (hl : l.length = n) (hcap : n ≤ cap) (hcm : cap ≤ 9223372036854775807) (hb : Bs w a l) (hnil : a = none → n = 0 ∧ cap = 0) (hv : validZ z = true) :
    Calls Tryd.prog 4 #[.int .u64 (gen : Int), .slice ai ni ci, .slice a n cap] w fun e w' => e = .returned (.bool true) ∧ Below w.heap.size w w' := by
  have hb0 : decide ((40000 : Int) < (ni : Int) + (n : Int)) = false := by simp; omega
  have h60 : ni ≤ 60 := by have := ((validZ_iff z).1 hv).1; omega
  have hrl : (manBytes gen z).length = 14 + 4 * ni := by rw [manBytes_length, hzl]
  have HV : Hid (validZ z = true) := hv
  clear hv
  go_enter Tryd.func4, Tryd.ntmps4
  go_wp2_with (at_builtin; refine app_nil_ints _ rfl _ _ rfl rfl ai ni ci z rfl hzl hz hznil ?_ ?_)
  · omega
  intro vl w1 hol hb1
  obtain ⟨la, lc, hlv, hlc, hlm, hli, hlnil⟩ := hol.shape
  rw [hlv]
  clear hlv hol
  have hs1 := hb1.size
  go_wp2_with fail
  refine (write_ok gen la lc ni z w1 hgen hzl hlc hlm hli HV.out).mono ?_
  rintro e w2 ⟨g, rfl, ho2, hb2⟩
  have hg2 := ho2.lt _ rfl
  have hB2 : Below w.heap.size w w2 := hb1.trans (hb2.mono (by omega))
  have hli2 := hli.kept hb2 (Nat.le_refl _)
  have hs2 := hb2.size
  clear hb1 hb2 hli
  go_wp2_with fail
  refine (tell_nil w2).mono ?_
  rintro e w3 ⟨rfl, hb3⟩
  have hB3 : Below w.heap.size w w3 := hB2.trans (hb3.mono (by omega))
  have hli3 := hli2.kept hb3 (Nat.le_refl _)
  have hs3 := hb3.size
  have ho3 := ho2.kept hb3 (Nat.le_refl _)
  clear ho2
  clear hb3 hli2
  have csn := sameNumbers_yes la ai lc ci ni z w3 hzl (by omega) hli3 (hz.kept hB3 (Nat.le_refl _))
  go_wp2_with fail
  refine csn.mono ?_
  rintro e w4 ⟨rfl, q4, hw4⟩
  have hB4 : Below w.heap.size w w4 := by rw [hw4]; exact below_drewN hB3 q4
  have hs4 : w3.heap.size ≤ w4.heap.size := by rw [hw4]; exact Nat.le_refl _
  have ho4 := ho3.drewN q4
  rw [← hw4] at ho4
  clear ho3
  clear hw4 csn hli3
  go_wp2_with fail
  refine (refWrite_ok gen ai ci ni z w4 hgen hzl (hz.kept hB4 (Nat.le_refl _)) HV.out).mono ?_
  rintro e w5 ⟨vc, rfl, hoc, hb5⟩
  have hB5 : Below w.heap.size w w5 := hB4.trans (hb5.mono (by omega))
  have hs5 := hb5.size
  have ho5 := ho4.kept hb5 (Nat.le_refl _)
  obtain ⟨gc, capc, hvc, hgc1, hgc2, hcapc⟩ := hoc.shape (by omega)
  rw [hvc] at hoc ⊢
  clear hvc hb5 ho4
  have csm : ∀ c1 c2, Calls Tryd.prog 9 #[.slice (some ⟨g, 0, none⟩) (14 + 4 * ni) c1, .slice (some ⟨gc, 0, none⟩) (14 + 4 * ni) c2] w5 fun e w' => e = .returned (.bool true) ∧ ∃ n, w' = w5.drewN n := fun c1 c2 => by
    have h1 : Bs w5 (some ⟨g, 0, none⟩) (manBytes gen z) := by
      have := ho5.bs 0 (14 + 4 * ni) (by omega)
      rwa [List.drop_zero, List.take_of_length_le (by omega)] at this
    have h2 : Bs w5 (some ⟨gc, 0, none⟩) (manBytes gen z) := by
      have := hoc.bs 0 (14 + 4 * ni) (by omega)
      rwa [List.drop_zero, List.take_of_length_le (by omega)] at this
    exact same_at g (some ⟨gc, 0, none⟩) c1 c2 (14 + 4 * ni) (manBytes gen z) w5 (by omega) hrl h1 h2
  go_wp2_with fail
  refine (csm _ _).mono ?_
  rintro e w6 ⟨rfl, nq, hw6⟩
  have hB6 : Below w.heap.size w w6 := by rw [hw6]; exact below_drewN hB5 nq
  have hs6 : w5.heap.size ≤ w6.heap.size := by rw [hw6]; exact Nat.le_refl _
  have ho6 := ho5.drewN nq
  rw [← hw6] at ho6
  clear ho5 hoc
  clear hw6 csm
  go_wp2_with (first | (go_at_call 10; refine (num_any _ _).mono ?_; rintro e w' ⟨rfl, rfl⟩))
  refine (manifest_any a cap n l w6 (hL.below hB6 (Nat.le_refl _)) hl (by omega) hcap hcm (hb.kept hB6 (Nat.le_refl _))).mono ?_
  rintro e w7 ⟨rfl, hb7⟩
  have hB7 : Below w.heap.size w w7 := hB6.trans (hb7.mono (by omega))
  have hs7 := hb7.size
  have ho7 := ho6.kept hb7 (Nat.le_refl _)
  have hbr7 : Bs w7 (some ⟨g, 0, none⟩) (manBytes gen z) := by
    have := ho7.bs 0 (14 + 4 * ni) (by omega)
    rwa [List.drop_zero, List.take_of_length_le (by omega)] at this
  clear hb7 ho6
  go_wp2_with fail
  refine (manifest_any _ _ _ (manBytes gen z) w7 (hL.below hB7 (Nat.le_refl _)) hrl (by omega) (by omega) (by omega) hbr7).mono ?_
  rintro e w8 ⟨rfl, hb8⟩
  have hB8 : Below w.heap.size w w8 := hB7.trans (hb8.mono (by omega))
  have hs8 := hb8.size
  have ho8 := ho7.kept hb8 (Nat.le_refl _)
  have hbs8 := hb.kept hB8 (Nat.le_refl _)
  clear hb8 ho7 hbr7
  cases a with
  | none =>
    obtain ⟨i0, hi, hz0, hz1, hz2⟩ := info_parts Tryd.info8
    obtain ⟨rfl, rfl⟩ := hnil rfl
    have hrun := fun ty => run_append_owned_none (P := Tryd.prog) w8 _ 25 ty 5 i0 1 Tryd.underlying25 hi _ _ _ ho8.2
    have hbr : Bs w8 (some ⟨g, 0, none⟩) (manBytes gen z) := by
      have := ho8.bs 0 (14 + 4 * ni) (by omega)
      rwa [List.drop_zero, List.take_of_length_le (by omega)] at this
    clear hi hz0 hz1 hz2
    go_wp2_with fail
    refine (manifest_any _ _ _ (manBytes gen z) w8 (hL.below hB8 (Nat.le_refl _)) hrl (by omega) (by omega) (by omega) hbr).mono ?_
    rintro e w9 ⟨rfl, hb9⟩
    have hB9 : Below w.heap.size w w9 := hB8.trans (hb9.mono (by omega))
    clear hb9
    go_wp2
    go_ret
    exact ⟨rfl, hB9⟩
  | some ad =>
    have hnews : ∀ j, j < n → w8.cell? (ad.add j) = some (.int .u8 (at8 l j)) := by
      intro j hj
      obtain ⟨b, o, e, hc⟩ := hbs8 j (by omega)
      cases e
      rw [Addr.add_lit]; exact hc
    have hbase : w1.heap.size ≤ w8.heap.size := by omega
    go_wp2_with (at_builtin; refine app_own _ rfl _ _ rfl _ (14 + 4 * ni) _ _ rfl ho8 ad n cap l rfl hl hnews ?e1 hbase ?_)
    case e1 => omega
    intro v9 w9 ho9 _ hb9
    obtain ⟨g9, cap9, hv9, hg91, hg92, hcap9, hcm9⟩ := ho9.shape2 (by omega)
    rw [hv9] at ho9 ⊢
    clear hv9
    have hB9 : Below w.heap.size w w9 := hB8.trans (hb9.mono (by omega))
    have hlen : (manBytes gen z ++ l).length = 14 + 4 * ni + n := by rw [List.length_append, hrl, hl]
    have hbr : Bs w9 (some ⟨g9, 0, none⟩) (manBytes gen z ++ l) := by
      have := ho9.bs 0 (14 + 4 * ni + n) (by omega)
      rwa [List.drop_zero, List.take_of_length_le (by omega)] at this
    have hs9 := hb9.size
    clear hb9 ho9 ho8 hnews hbs8
    go_wp2_with fail
    refine (manifest_any _ _ _ (manBytes gen z ++ l) w9 (hL.below hB9 (Nat.le_refl _)) hlen (by omega) (by omega) (by omega) hbr).mono ?_
    rintro e w10 ⟨rfl, hb10⟩
    have hB10 : Below w.heap.size w w10 := hB9.trans (hb10.mono (by omega))
    clear hb10
    go_wp2
    go_ret
    exact ⟨rfl, hB10⟩

theorem manifests_any (gen : Nat) (hgen : gen < 18446744073709551616) (ai a : Option Addr) (ci ni cap n : Nat) (z : List Int) (l : List UInt8) (w : World) (hL : Laid w) (hi : ni ≤ 1000000000000000) (hn : n ≤ 1000000000000000)
    (hzl : z.length = ni) (hz : Is w ai z) (hznil : ai = none → ni = 0 ∧ ci = 0) (hl : l.length = n) (hcap : n ≤ cap) (hcm : cap ≤ 9223372036854775807) (hb : Bs w a l) (hnil : a = none → n = 0 ∧ cap = 0) :
    Calls Tryd.prog 4 #[.int .u64 (gen : Int), .slice ai ni ci, .slice a n cap] w fun e w' => e = .returned (.bool true) ∧ Below w.heap.size w w' := by
  by_cases h : 40000 < ni + n
  · exact manifests_big gen ai a ci ni cap n w hi hn h
  · cases hv : validZ z with
    | false => exact manifests_err gen ai a ci ni cap n z l w hL (by omega) hzl hz hznil hl hcap hcm hb hv
    | true => exact manifests_ok gen hgen ai a ci ni cap n z l w hL (by omega) hzl hz hznil hl hcap hcm hb hnil hv
end Go.Proofs.YtakjpgjcfecfiaaDoor
