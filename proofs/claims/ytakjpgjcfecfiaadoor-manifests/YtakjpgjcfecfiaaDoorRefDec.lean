import Derived.Test.YtakjpgjcfecfiaaDoorDec
import Derived.Test.YtakjpgjcfecfiaaDoorRefEnc
/- The document's own Decode. -/
namespace Go.Proofs.YtakjpgjcfecfiaaDoor
open Go.RowKit

abbrev Z34 : Obj := .cells #[.int .u64 0, .string ⟨#[]⟩, .string ⟨#[]⟩, .bool false, .int .i64 0] 34
abbrev zref : Value := .agg #[.int .u64 0, .string ⟨#[]⟩, .string ⟨#[]⟩, .bool false, .int .i64 0]

set_option maxHeartbeats 400000 in
theorem refDecode_short (a : Option Addr) (cap n : Nat) (w : World) (h : n < 16) :
    Calls Tryd.prog 23 #[.slice a n cap] w fun e w' => e = .returned (.tuple #[zref, .bool false]) ∧ Below w.heap.size w w' := by
  have hb : decide ((n : Int) < 16) = true := by simp; omega
  go_enter Tryd.func23, Tryd.ntmps23
  go_wp2
  exact bodyPost_ret (v := .tuple #[zref, .bool false]) (by simp [results, Tryd.results23, go_sem]) rfl ⟨rfl, ((Below.refl _ w).alloc (Nat.le_refl _) _).alloc (by simp) _⟩

set_option maxRecDepth 100000 in
set_option maxHeartbeats 1000000 in
theorem refDecode_no (b o cap n : Nat) (l : List UInt8) (w : World) (hl : l.length = n) (hn : 16 ≤ n) (hm : n ≤ 100000) (hcap : n ≤ cap) (hcm : cap ≤ 9223372036854775807) (hb : Bs w (some ⟨b, o, none⟩) l) (h : decOk l = false) :
    Calls Tryd.prog 23 #[.slice (some ⟨b, o, none⟩) n cap] w fun e w' => e = .returned (.tuple #[zref, .bool false]) ∧ Below w.heap.size w w' := by
  have hk := kl_lt l
  have hv := vl_lt l
  have hB : Below w.heap.size w ((w.alloc Z34).alloc Z34) := ((Below.refl _ w).alloc (Nat.le_refl _) _).alloc (by simp) _
  have hb' := hb.kept hB (Nat.le_refl _)
  have c13 := hb'.at 13 (by omega)
  have c12 := hb'.at 12 (by omega)
  rw [← kl_at l (by omega)] at c13
  have d12 := at8_bd l 12
  have cn2 : ∀ c, Calls Tryd.prog 36 #[.slice (some ⟨b, o + 14, none⟩) 2 c] ((w.alloc Z34).alloc Z34) fun e w' => e = .returned (.int .u64 (vl l : Nat)) ∧ w' = (w.alloc Z34).alloc Z34 :=
    fun c => refNumber_at b (o + 14) c 2 _ _ (by omega) (by simp; omega) (hb'.part 14 2 (by omega))
  have cn4 : ∀ c, Calls Tryd.prog 36 #[.slice (some ⟨b, o, none⟩) 4 c] ((w.alloc Z34).alloc Z34) fun e w' => e = .returned (.int .u64 (num (l.take 4) : Nat)) ∧ w' = (w.alloc Z34).alloc Z34 :=
    fun c => refNumber_at b o c 4 (l.take 4) _ (by omega) (by simp; omega) (by simpa using hb'.part 0 4 (by omega))
  have cs : 16 + kl l + vl l ≤ n → ∀ c, Calls Tryd.prog 19 #[.slice (some ⟨b, o + 4, none⟩) (16 + kl l + vl l - 4) c] ((w.alloc Z34).alloc Z34) fun e w' => e = .returned (.int .u32 (crc ((l.drop 4).take (12 + kl l + vl l)) : Nat)) ∧ w' = (w.alloc Z34).alloc Z34 :=
    fun h1 c => refSum_at' b (o + 4) c _ _ _ (by omega) (by simp; omega) (hb'.part 4 (12 + kl l + vl l) (by omega))
  have hcr := crc_lt ((l.drop 4).take (12 + kl l + vl l))
  have hn4 : num (l.take 4) < 4294967296 := by have := num_lt (l.take 4); rwa [show (l.take 4).length = 4 by simp; omega] at this
  have n14 : ¬ cap = 14 := by omega
  have n4 : ¬ cap = 4 := by omega
  have b16 : decide ((n : Int) < 16) = false := by simp; omega
  have hch : ¬ (16 + kl l + vl l ≤ n ∧ num (l.take 4) = crc ((l.drop 4).take (12 + kl l + vl l)) ∧ at8 l 12 ≤ 1 ∧ ¬ kl l = 0 ∧ kl l ≤ 16 ∧ vl l ≤ 64 ∧ ¬ (at8 l 12 = 1 ∧ 0 < vl l)) := by
    intro ⟨a1, a2, a3, a4, a5, a6, a7⟩
    have : decOk l = true := by
      unfold decOk
      rw [Bool.and_eq_true_iff]
      exact ⟨decide_eq_true ⟨by omega, a5, a6, by omega⟩, decide_eq_true ⟨a4, a3, a7, a2⟩⟩
    rw [this] at h; cases h
  clear hb hb' h hl
  generalize kl l = k at *
  generalize vl l = v at *
  generalize num (l.take 4) = s4 at *
  generalize crc ((l.drop 4).take (12 + k + v)) = cr at *
  generalize at8 l 12 = t at *
  by_cases h1 : n < 16 + k + v
  · have b3 : decide ((n : Int) < 16 + (k : Int) + (v : Int)) = true := by simp; omega
    go_enter Tryd.func23, Tryd.ntmps23
    go_wp2_with fail
    refine (cn2 _).mono ?_
    rintro e w' ⟨rfl, rfl⟩
    go_wp2
    exact bodyPost_ret (v := .tuple #[zref, .bool false]) (by simp [results, Tryd.results23, go_sem]) rfl ⟨rfl, hB⟩
  · have b3 : decide ((n : Int) < 16 + (k : Int) + (v : Int)) = false := by simp; omega
    have cs' := cs (by omega)
    clear cs
    have hch2 : (((s4 : Int) != (cr : Int)) = true) ∨ ((((s4 : Int) != (cr : Int)) = false) ∧ decide ((1 : Int) < t) = true) ∨
        ((((s4 : Int) != (cr : Int)) = false) ∧ decide ((1 : Int) < t) = false ∧ ((k : Int) == 0) = true) ∨
        ((((s4 : Int) != (cr : Int)) = false) ∧ decide ((1 : Int) < t) = false ∧ ((k : Int) == 0) = false ∧ decide ((16 : Int) < k) = true) ∨
        ((((s4 : Int) != (cr : Int)) = false) ∧ decide ((1 : Int) < t) = false ∧ ((k : Int) == 0) = false ∧ decide ((16 : Int) < k) = false ∧ decide ((64 : Int) < v) = true) ∨
        ((((s4 : Int) != (cr : Int)) = false) ∧ decide ((1 : Int) < t) = false ∧ ((k : Int) == 0) = false ∧ decide ((16 : Int) < k) = false ∧ decide ((64 : Int) < v) = false ∧ (t == 1) = true ∧ decide ((0 : Int) < v) = true ∧ 0 < v) := by
      simp only [bne_iff_ne, bne_eq_false_iff_eq, decide_eq_true_iff, decide_eq_false_iff_not, beq_iff_eq, beq_eq_false_iff_ne]
      omega
    clear hch
    rcases hch2 with g1 | ⟨g1, g2⟩ | ⟨g1, g2, g3⟩ | ⟨g1, g2, g3, g4⟩ | ⟨g1, g2, g3, g4, g5⟩ | ⟨g1, g2, g3, g4, g5, g6, g7, g8⟩
    all_goals
      go_enter Tryd.func23, Tryd.ntmps23
      go_wp2_with fail
      refine (cn2 _).mono ?_
      rintro e w' ⟨rfl, rfl⟩
      go_wp2_with fail
      refine (cs' _).mono ?_
      rintro e w' ⟨rfl, rfl⟩
      go_wp2_with fail
      refine (cn4 _).mono ?_
      rintro e w' ⟨rfl, rfl⟩
      go_wp2
      exact bodyPost_ret (v := .tuple #[zref, .bool false]) (by simp [results, Tryd.results23, go_sem]) rfl ⟨rfl, hB⟩
set_option maxRecDepth 100000 in
set_option maxHeartbeats 1000000 in
theorem refDecode_yes (b o cap n : Nat) (l : List UInt8) (w : World) (hl : l.length = n) (hn : 16 ≤ n) (hm : n ≤ 100000) (hcap : n ≤ cap) (hcm : cap ≤ 9223372036854775807) (hb : Bs w (some ⟨b, o, none⟩) l) (h : decOk l = true) :
    Calls Tryd.prog 23 #[.slice (some ⟨b, o, none⟩) n cap] w fun e w' =>
      e = .returned (.tuple #[.agg #[.int .u64 (dseq l : Nat), .string (dkey l), .string (dval l), .bool (ddel l), .int .i64 ((16 + kl l + vl l : Nat) : Int)], .bool true]) ∧ Below w.heap.size w w' := by
  have hk := kl_lt l
  have hv := vl_lt l
  have hB : Below w.heap.size w ((w.alloc Z34).alloc Z34) := ((Below.refl _ w).alloc (Nat.le_refl _) _).alloc (by simp) _
  have hb' := hb.kept hB (Nat.le_refl _)
  have c13 := hb'.at 13 (by omega)
  have c12 := hb'.at 12 (by omega)
  rw [← kl_at l (by omega)] at c13
  have d12 := at8_bd l 12
  unfold decOk at h
  rw [Bool.and_eq_true_iff] at h
  have h1 : 16 ≤ l.length ∧ kl l ≤ 16 ∧ vl l ≤ 64 ∧ 16 + kl l + vl l ≤ l.length := of_decide_eq_true h.1
  have h2 : ¬ kl l = 0 ∧ at8 l 12 ≤ 1 ∧ ¬ (at8 l 12 = 1 ∧ 0 < vl l) ∧ num (l.take 4) = crc ((l.drop 4).take (12 + kl l + vl l)) := of_decide_eq_true h.2
  have cn2 : ∀ c, Calls Tryd.prog 36 #[.slice (some ⟨b, o + 14, none⟩) 2 c] ((w.alloc Z34).alloc Z34) fun e w' => e = .returned (.int .u64 (vl l : Nat)) ∧ w' = (w.alloc Z34).alloc Z34 :=
    fun c => refNumber_at b (o + 14) c 2 _ _ (by omega) (by simp; omega) (hb'.part 14 2 (by omega))
  have cn4 : ∀ c, Calls Tryd.prog 36 #[.slice (some ⟨b, o, none⟩) 4 c] ((w.alloc Z34).alloc Z34) fun e w' => e = .returned (.int .u64 (num (l.take 4) : Nat)) ∧ w' = (w.alloc Z34).alloc Z34 :=
    fun c => refNumber_at b o c 4 (l.take 4) _ (by omega) (by simp; omega) (by simpa using hb'.part 0 4 (by omega))
  have cn8 : ∀ c, Calls Tryd.prog 36 #[.slice (some ⟨b, o + 4, none⟩) 8 c] ((w.alloc Z34).alloc Z34) fun e w' => e = .returned (.int .u64 (dseq l : Nat)) ∧ w' = (w.alloc Z34).alloc Z34 :=
    fun c => refNumber_at b (o + 4) c 8 _ _ (by omega) (by simp; omega) (hb'.part 4 8 (by omega))
  have cs' : ∀ c, Calls Tryd.prog 19 #[.slice (some ⟨b, o + 4, none⟩) (16 + kl l + vl l - 4) c] ((w.alloc Z34).alloc Z34) fun e w' => e = .returned (.int .u32 (crc ((l.drop 4).take (12 + kl l + vl l)) : Nat)) ∧ w' = (w.alloc Z34).alloc Z34 :=
    fun c => refSum_at' b (o + 4) c _ _ _ (by omega) (by simp; omega) (hb'.part 4 (12 + kl l + vl l) (by omega))
  have hcr := crc_lt ((l.drop 4).take (12 + kl l + vl l))
  have hn4 : num (l.take 4) < 4294967296 := by have := num_lt (l.take 4); rwa [show (l.take 4).length = 4 by simp; omega] at this
  have n14 : ¬ cap = 14 := by omega
  have n4 : ¬ cap = 4 := by omega
  have n16 : ¬ cap = 16 := by omega
  have b16 : decide ((n : Int) < 16) = false := by simp; omega
  have b3 : decide ((n : Int) < 16 + (kl l : Int) + (vl l : Int)) = false := by simp; omega
  have g1 : (((num (l.take 4) : Nat) : Int) != ((crc ((l.drop 4).take (12 + kl l + vl l)) : Nat) : Int)) = false := by rw [h2.2.2.2]; simp
  have g2 : decide ((1 : Int) < at8 l 12) = false := by simp; omega
  have g3 : ((kl l : Int) == 0) = false := by rw [beq_eq_false_iff_ne]; omega
  have g4 : decide ((16 : Int) < kl l) = false := by simp; omega
  have g5 : decide ((64 : Int) < vl l) = false := by simp; omega
  have g6 : ((at8 l 12 == 1) = false) ∨ ((at8 l 12 == 1) = true ∧ ¬ 0 < vl l) := by
    rw [beq_eq_false_iff_ne, beq_iff_eq]; omega
  have hk16 : kl l ≤ 16 := h1.2.1
  have hv64 : vl l ≤ 64 := h1.2.2.1
  have hlk : (16 : Int) + (kl l : Int) ≤ (cap : Int) := by omega
  have hlv : (16 : Int) + (kl l : Int) + (vl l : Int) ≤ (cap : Int) := by omega
  have i12 : (12 : Int) < (n : Int) := by omega
  have i12' : (12 : Int) ≤ (cap : Int) := by omega
  have hdl : ddel l = (at8 l 12 == 1) := rfl
  have HD : Hid (ddel l = (at8 l 12 == 1)) := hdl
  obtain ⟨va, hva⟩ : ∃ va, (if cap = 16 + kl l then some (⟨b, o, none⟩ : Addr) else some ⟨b, o + (16 + kl l), none⟩) = va := ⟨_, rfl⟩
  have s0 : ∀ ob, ((w.alloc ob).alloc Z34).drew.cell? ⟨b, o + 12, none⟩ = some (.int .u8 (at8 l 12)) ∧
      (∀ c, (Go.convert 25 9 (.slice (some ⟨b, o + 16, none⟩) (kl l) c)).run Tryd.prog ((w.alloc ob).alloc Z34).drew = .ok (.string (dkey l)) ((w.alloc ob).alloc Z34).drew) ∧
      (∀ c, (Go.convert 25 9 (.slice va (vl l) c)).run Tryd.prog ((w.alloc ob).alloc Z34).drew = .ok (.string (dval l)) ((w.alloc ob).alloc Z34).drew) := fun ob => by
    have hbb := hb.kept ((((Below.refl _ w).alloc (Nat.le_refl _) ob).alloc (by simp) Z34).drew) (Nat.le_refl _)
    have h3 := (SplS.mk hbb (by omega)).2
    refine ⟨h3.1, h3.2.1, fun c => ?_⟩
    by_cases hc : cap = 16 + kl l
    · rw [if_pos hc] at hva
      subst hva
      have hv0 : vl l = 0 := by omega
      have h4 := (hbb.part 0 0 (by omega)).conv (n := 0) (by simp) c
      have h5 : dval l = ⟨((l.drop 0).take 0).toArray⟩ := by unfold dval; rw [hv0]; simp
      rw [h5, hv0]
      exact h4
    · rw [if_neg hc] at hva
      subst hva
      exact h3.2.2 c
  clear hdl h1 h2 h hl hb hb'
  generalize kl l = k at *
  generalize vl l = v at *
  generalize dkey l = ks at *
  generalize dval l = vs at *
  generalize dseq l = sq at *
  generalize num (l.take 4) = s4 at *
  generalize crc ((l.drop 4).take (12 + k + v)) = cr at *
  have hwr : IntKind.i64.wrap (16 + (k : Int) + (v : Int)) = 16 + (k : Int) + (v : Int) := by rw [IntKind.wrap_i64]; omega
  have hwk : IntKind.i64.wrap (16 + (k : Int)) = 16 + (k : Int) := by rw [IntKind.wrap_i64]; omega
  have t1 : ((16 : Int) + (k : Int)).toNat = 16 + k := by omega
  have t2 : ((16 : Int) + (k : Int) + (v : Int)).toNat = 16 + k + v := by omega
  have e1 : (0 : Int) ≤ 16 + (k : Int) := by omega
  have e2 : (16 : Int) ≤ 16 + (k : Int) := by omega
  have e3 : (0 : Int) ≤ 16 + (k : Int) + (v : Int) := by omega
  have e4 : (16 : Int) + (k : Int) ≤ 16 + (k : Int) + (v : Int) := by omega
  rcases g6 with g6 | ⟨g6, g7⟩
  all_goals
    go_enter Tryd.func23, Tryd.ntmps23
    go_wp2_with fail
    refine (cn2 _).mono ?_
    rintro e w' ⟨rfl, rfl⟩
    go_wp2_with fail
    refine (cs' _).mono ?_
    rintro e w' ⟨rfl, rfl⟩
    go_wp2_with fail
    refine (cn4 _).mono ?_
    rintro e w' ⟨rfl, rfl⟩
    go_wp2_with fail
    refine (cn8 _).mono ?_
    rintro e w' ⟨rfl, rfl⟩
    clear cn2 cn4 cn8 cs'
    go_upto_region 12 with fail
    go_region_held3 (fun W => W.cell? ⟨b, o + 12, none⟩ = some (.int .u8 (at8 l 12)) ∧
      (∀ c, (Go.convert 25 9 (.slice (some ⟨b, o + 16, none⟩) k c)).run Tryd.prog W = .ok (.string ks) W) ∧
      (∀ c, (Go.convert 25 9 (.slice va v c)).run Tryd.prog W = .ok (.string vs) W)) (first | assumption | exact s0 _) (fail)
    go_wp2
    exact bodyPost_ret (v := .tuple #[.agg #[.int .u64 (sq : Int), .string ks, .string vs, .bool (at8 l 12 == 1), .int .i64 (16 + (k : Int) + (v : Int))], .bool true]) (by simp [results, Tryd.results23, go_sem]; simpa using g6) rfl ⟨by rw [HD.out]; first | rfl | simp, (((Below.refl _ w).alloc (Nat.le_refl _) _).alloc (by simp) _).drew⟩

end Go.Proofs.YtakjpgjcfecfiaaDoor
