import Derived.Test.YtakjpgjcfecfiaaDoorDecM
import Derived.Deep.RegionHeld3
import Derived.Laws.BytesArg
import Derived.Deep.QuietTactic
import Derived.BigQuiet
import Derived.Deep.CutRange
/- splitRecord. -/
namespace Go.Proofs.YtakjpgjcfecfiaaDoor
open Go.RowKit

/-- the zero record -/
abbrev Z24 : Obj := .cells #[.int .u64 0, .string ⟨#[]⟩, .string ⟨#[]⟩, .bool false] 24
abbrev zrec : Value := .agg #[.int .u64 0, .string ⟨#[]⟩, .string ⟨#[]⟩, .bool false]

set_option maxHeartbeats 400000 in
theorem split_short (a : Option Addr) (cap n : Nat) (w : World) (h : n < 16) :
    Calls Tryd.prog 43 #[.slice a n cap] w fun e w' => e = .returned (.tuple #[zrec, .bool false]) ∧ Below w.heap.size w w' := by
  go_enter Tryd.func43, Tryd.ntmps43
  go_wp2
  exact bodyPost_ret (v := .tuple #[zrec, .bool false]) (by simp [results, Tryd.results43, go_sem]) rfl ⟨rfl, (Below.refl _ w).alloc (Nat.le_refl _) _⟩

set_option maxHeartbeats 400000 in
theorem split_no (b o cap n : Nat) (l : List UInt8) (w : World) (hl : l.length = n) (hn : 16 ≤ n) (hm : n ≤ 1000000) (hcap : n ≤ cap) (hcm : cap ≤ 9223372036854775807) (hb : Bs w (some ⟨b, o, none⟩) l) (h : splitOk l = false) :
    Calls Tryd.prog 43 #[.slice (some ⟨b, o, none⟩) n cap] w fun e w' => e = .returned (.tuple #[zrec, .bool false]) ∧ Below w.heap.size w w' := by
  have h' : ¬ (16 ≤ l.length ∧ kl l ≤ 16 ∧ vl l ≤ 64 ∧ 16 + kl l + vl l ≤ l.length) := of_decide_eq_false h
  have hk := kl_lt l
  have hv := vl_lt l
  have hB : Below w.heap.size w (w.alloc Z24) := (Below.refl _ w).alloc (Nat.le_refl _) _
  have hb' := hb.kept hB (Nat.le_refl _)
  have cn1 : ∀ c, Calls Tryd.prog 48 #[.slice (some ⟨b, o + 13, none⟩) 1 c] (w.alloc Z24) fun e w' => e = .returned (.int .u64 (kl l : Nat)) ∧ w' = w.alloc Z24 :=
    fun c => number_at b (o + 13) c 1 _ (w.alloc Z24) (by omega) (by simp; omega) (hb'.part 13 1 (by omega))
  have cn2 : ∀ c, Calls Tryd.prog 48 #[.slice (some ⟨b, o + 14, none⟩) 2 c] (w.alloc Z24) fun e w' => e = .returned (.int .u64 (vl l : Nat)) ∧ w' = w.alloc Z24 :=
    fun c => number_at b (o + 14) c 2 _ (w.alloc Z24) (by omega) (by simp; omega) (hb'.part 14 2 (by omega))
  have n13 : ¬ cap = 13 := by omega
  have n14 : ¬ cap = 14 := by omega
  have b16 : decide ((n : Int) < 16) = false := by simp; omega
  rw [hl] at h'
  generalize kl l = k at *
  generalize vl l = v at *
  clear hb hb' h hl
  have key : (decide ((16 : Int) < k) = true) ∨ (decide ((16 : Int) < k) = false ∧ decide ((64 : Int) < v) = true) ∨ (decide ((16 : Int) < k) = false ∧ decide ((64 : Int) < v) = false ∧ decide ((n : Int) < 16 + (k : Int) + v) = true) := by
    simp only [decide_eq_true_iff, decide_eq_false_iff_not]; omega
  clear h'
  rcases key with b1 | ⟨b1, b2⟩ | ⟨b1, b2, b3⟩
  all_goals
    go_enter Tryd.func43, Tryd.ntmps43
    go_wp2_with fail
    refine (cn1 _).mono ?_
    rintro e w' ⟨rfl, rfl⟩
    go_wp2_with fail
    refine (cn2 _).mono ?_
    rintro e w' ⟨rfl, rfl⟩
    go_wp2
    exact bodyPost_ret (v := .tuple #[zrec, .bool false]) (by simp [results, Tryd.results43, go_sem]) rfl ⟨rfl, hB⟩
/-- what the last statement of splitRecord reads -/
def SplS (b o k v : Nat) (l : List UInt8) (ks vs : ByteArray) (w : World) : Prop :=
  Bs w (some ⟨b, o, none⟩) l ∧ w.cell? ⟨b, o + 12, none⟩ = some (.int .u8 (at8 l 12)) ∧
  (∀ c, (Go.convert 25 9 (.slice (some ⟨b, o + 16, none⟩) k c)).run Tryd.prog w = .ok (.string ks) w) ∧
  (∀ c, (Go.convert 25 9 (.slice (some ⟨b, o + (16 + k), none⟩) v c)).run Tryd.prog w = .ok (.string vs) w)
theorem SplS.mk {b o : Nat} {l : List UInt8} {w : World} (h : Bs w (some ⟨b, o, none⟩) l) (hl : 16 + kl l + vl l ≤ l.length) : SplS b o (kl l) (vl l) l (dkey l) (dval l) w :=
  ⟨h, h.at 12 (by omega), fun c => (h.part 16 (kl l) (by omega)).conv (by simp; omega) c, fun c => (h.part (16 + kl l) (vl l) (by omega)).conv (by simp; omega) c⟩

set_option maxRecDepth 100000 in
set_option maxHeartbeats 1000000 in
theorem split_ok (b o cap n : Nat) (l : List UInt8) (w : World) (hl : l.length = n) (hn : 16 ≤ n) (hm : n ≤ 1000000) (hcap : n < cap) (hcm : cap ≤ 9223372036854775807) (hb : Bs w (some ⟨b, o, none⟩) l) (h : splitOk l = true) :
    Calls Tryd.prog 43 #[.slice (some ⟨b, o, none⟩) n cap] w fun e w' =>
      e = .returned (.tuple #[.agg #[.int .u64 (dseq l : Nat), .string (dkey l), .string (dval l), .bool (ddel l)], .bool true]) ∧ Below w.heap.size w w' := by
  have h' : 16 ≤ l.length ∧ kl l ≤ 16 ∧ vl l ≤ 64 ∧ 16 + kl l + vl l ≤ l.length := of_decide_eq_true h
  have hlt := hb.lt rfl (by omega)
  have hB : Below w.heap.size w (w.alloc Z24) := (Below.refl _ w).alloc (Nat.le_refl _) _
  have hb' := hb.kept hB (Nat.le_refl _)
  have cn1 : ∀ c, Calls Tryd.prog 48 #[.slice (some ⟨b, o + 13, none⟩) 1 c] (w.alloc Z24) fun e w' => e = .returned (.int .u64 (kl l : Nat)) ∧ w' = w.alloc Z24 :=
    fun c => number_at b (o + 13) c 1 _ (w.alloc Z24) (by omega) (by simp; omega) (hb'.part 13 1 (by omega))
  have cn2 : ∀ c, Calls Tryd.prog 48 #[.slice (some ⟨b, o + 14, none⟩) 2 c] (w.alloc Z24) fun e w' => e = .returned (.int .u64 (vl l : Nat)) ∧ w' = w.alloc Z24 :=
    fun c => number_at b (o + 14) c 2 _ (w.alloc Z24) (by omega) (by simp; omega) (hb'.part 14 2 (by omega))
  have cn3 : ∀ W, Bs W (some ⟨b, o, none⟩) l → ∀ c, Calls Tryd.prog 48 #[.slice (some ⟨b, o + 4, none⟩) 8 c] W fun e w' => e = .returned (.int .u64 (dseq l : Nat)) ∧ w' = W :=
    fun W hW c => number_at b (o + 4) c 8 _ W (by omega) (by simp; omega) (hW.part 4 8 (by omega))
  have s0 : ∀ ob, SplS b o (kl l) (vl l) l (dkey l) (dval l) (w.alloc ob).drew := fun ob => SplS.mk (hb.kept (((Below.refl _ w).alloc (Nat.le_refl _) ob).drew) (Nat.le_refl _)) (by omega)
  have n13 : ¬ cap = 13 := by omega
  have n14 : ¬ cap = 14 := by omega
  have n4 : ¬ cap = 4 := by omega
  have n16 : ¬ cap = 16 := by omega
  have nk : ¬ cap = 16 + kl l := by omega
  have b16 : decide ((n : Int) < 16) = false := by simp; omega
  have b1 : decide ((16 : Int) < (kl l : Int)) = false := by simp; omega
  have b2 : decide ((64 : Int) < (vl l : Int)) = false := by simp; omega
  have b3 : decide ((n : Int) < 16 + (kl l : Int) + (vl l : Int)) = false := by simp; omega
  have i12 : (12 : Int) < (n : Int) := by omega
  have i12' : (12 : Int) ≤ (cap : Int) := by omega
  have hk16 : kl l ≤ 16 := h'.2.1
  have hv64 : vl l ≤ 64 := h'.2.2.1
  have hlk : (16 : Int) + (kl l : Int) ≤ (cap : Int) := by omega
  have hlv : (16 : Int) + (kl l : Int) + (vl l : Int) ≤ (cap : Int) := by omega
  have hdl : ddel l = (at8 l 12 == 1) := rfl
  have HD : Hid (ddel l = (at8 l 12 == 1)) := hdl
  clear hdl h' h hl hb hb'
  generalize kl l = k at *
  generalize vl l = v at *
  generalize dkey l = ks at *
  generalize dval l = vs at *
  generalize dseq l = sq at *
  have hwr : IntKind.i64.wrap (16 + (k : Int) + (v : Int)) = 16 + (k : Int) + (v : Int) := by rw [IntKind.wrap_i64]; omega
  have t1 : ((16 : Int) + (k : Int)).toNat = 16 + k := by omega
  have t2 : ((16 : Int) + (k : Int) + (v : Int)).toNat = 16 + k + v := by omega
  have g1 : (0 : Int) ≤ 16 + (k : Int) := by omega
  have g2 : (16 : Int) ≤ 16 + (k : Int) := by omega
  have g3 : (0 : Int) ≤ 16 + (k : Int) + (v : Int) := by omega
  have g4 : (16 : Int) + (k : Int) ≤ 16 + (k : Int) + (v : Int) := by omega
  go_enter Tryd.func43, Tryd.ntmps43
  go_wp2_with fail
  refine (cn1 _).mono ?_
  rintro e w' ⟨rfl, rfl⟩
  go_wp2_with fail
  refine (cn2 _).mono ?_
  rintro e w' ⟨rfl, rfl⟩
  clear cn1 cn2
  go_upto_region 8 with fail
  go_region_held3 (fun W => Bs W (some ⟨b, o, none⟩) l ∧ W.cell? ⟨b, o + 12, none⟩ = some (.int .u8 (at8 l 12)) ∧
    (∀ c, (Go.convert 25 9 (.slice (some ⟨b, o + 16, none⟩) k c)).run Tryd.prog W = .ok (.string ks) W) ∧
    (∀ c, (Go.convert 25 9 (.slice (some ⟨b, o + (16 + k), none⟩) v c)).run Tryd.prog W = .ok (.string vs) W)) (first | assumption | exact s0 _) (first | (go_at_call 48; refine (cn3 _ ?_ _).mono ?_; (focus (simp [*])); rintro e w' ⟨rfl, rfl⟩))
  go_wp2
  exact bodyPost_ret (v := .tuple #[.agg #[.int .u64 (sq : Int), .string ks, .string vs, .bool (at8 l 12 == 1)], .bool true]) (by simp [results, Tryd.results43, go_sem]) rfl ⟨by rw [HD.out], ((Below.refl _ w).alloc (Nat.le_refl _) _).drew⟩
end Go.Proofs.YtakjpgjcfecfiaaDoor
