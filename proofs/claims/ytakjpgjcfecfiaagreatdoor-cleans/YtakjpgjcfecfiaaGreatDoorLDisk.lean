import Derived.Test.YtakjpgjcfecfiaaGreatDoorLDka
import Derived.Test.YtakjpgjcfecfiaaGreatDoorLTidy
import Derived.Deep.CutRange
import Derived.Deep.DeepCutAuto
/- keydirlaw's disk: a disk at rest, with whatever files. -/
namespace Go.Proofs.YtakjpgjcfecfiaaGreatDoor
open Go.RowKit Go.Maps Go.Joins

theorem Is.zs {w : World} {a : Option Addr} {z : List Int} (h : Is w a z) : Zs w a z := h
/-- while the disk is being laid: K is what is not its own -/
structure Lay (w1 wr : World) (d c : Nat) (K : Nat → Prop) (v : Value) (z : List Int) : Prop where
  dk : ∃ F, Dk wr d K c F
  low : ∀ k, k < w1.heap.size → K k
  ids : OwnI wr w1.heap.size v z.length z
  row : ∀ g, v.ownBlock = some g → K g
  below : Below w1.heap.size w1 wr
/-- memory beside the disk is made -/
theorem Lay.more {w1 wr w' : World} {d c : Nat} {K : Nat → Prop} {v : Value} {z : List Int} (h : Lay w1 wr d c K v z) (hb : Below wr.heap.size wr w') : Lay w1 w' d c (fun k => K k ∨ (wr.heap.size ≤ k ∧ k < w'.heap.size)) v z := by
  obtain ⟨F, hF⟩ := h.dk
  exact ⟨⟨F, hF.below hb⟩, fun k hk => .inl (h.low k hk), h.ids.kept hb (Nat.le_refl _), fun g hg => .inl (h.row g hg), h.below.trans (hb.mono h.below.size)⟩
/-- the disk turns -/
theorem Lay.turn {w1 wr w' : World} {d c c' : Nat} {K : Nat → Prop} {v : Value} {z : List Int} (h : Lay w1 wr d c K v z) (hd : ∃ F, Dk w' d K c' F) (hk : Kept K wr w') : Lay w1 w' d c' K v z := by
  refine ⟨hd, h.low, ⟨h.ids.1, row_keep h.ids.2 fun g hg => hk.block g (h.row g hg) (row_lt h.ids.2 hg)⟩, h.row, ?_⟩
  exact h.below.trans ⟨hk.os, hk.tape, hk.output, hk.size, fun k hk' => hk.block k (h.low k hk') (Nat.lt_of_lt_of_le hk' h.below.size)⟩

theorem Lay.up {w1 wr : World} {d c c' : Nat} {K : Nat → Prop} {v : Value} {z : List Int} (h : Lay w1 wr d c K v z) (hc : c ≤ c') : Lay w1 wr d c' K v z := by
  obtain ⟨F, hF⟩ := h.dk
  exact ⟨⟨F, hF.mono hc⟩, h.low, h.ids, h.row, h.below⟩
theorem Lay.is {w1 wr : World} {d c n capv : Nat} {K : Nat → Prop} {av : Option Addr} {z : List Int} (h : Lay w1 wr d c K (.slice av n capv) z) : Is wr av z := by
  obtain ⟨a, cap, e, _, _, hi, _⟩ := h.ids.shape
  cases e
  exact hi
/-- a number more -/
theorem Lay.app {w1 wr w' : World} {d c : Nat} {K : Nat → Prop} {v v' : Value} {z : List Int} {x : Int} {o : Obj} (h : Lay w1 wr d c K v z) (hr : w'.ownsRow w1.heap.size 3 1 v' (z.length + 1) (icells z ++ [.int .i64 x])) (hg : (wr.alloc o).grownBy w' v.ownBlock)
    (hat : v'.ownBlock = v.ownBlock ∨ v'.ownBlock = some (wr.alloc o).heap.size) : ∃ K', Lay w1 w' d c K' v' (z ++ [x]) := by
  obtain ⟨F, hF⟩ := h.dk
  have hg2 : wr.grownBy w' v.ownBlock := grown_trans (World.grownBy_alloc wr o _) hg
  have hd := hF.aside hg2 (fun g hg => by obtain ⟨cs, hb⟩ := row_block h.ids.2 hg; exact ⟨cs, hb⟩)
  refine ⟨_, ⟨F, hd⟩, fun k hk => .inl (h.low k hk), ⟨rfl, by simpa [icells] using hr⟩, fun g hg' => ?_, ?_⟩
  · rcases hat with e | e
    · exact .inl (h.row g (e ▸ hg'))
    · rw [e] at hg'
      cases hg'
      refine .inr ⟨by simp, row_lt hr e⟩
  · exact h.below.grown hg2 h.below.size (fun k hk => (h.ids.2.lt k hk).1)

set_option maxRecDepth 100000 in
set_option maxHeartbeats 4000000 in
theorem disk_any (w : World) (sa : Option Addr) (ns cs : Nat) (oa : Option Addr) (no co gen : Nat) (pa : Option Addr) (np cp : Nat) (wh wo : Bool) (room : Int) (hL : Laid w) (hgen : gen < 18446744073709551616)
    (hs : SegsAt w sa ns) (ho : OthsAt w oa no) (hp : BytesAt w pa np cp) (hsm : SmallDir w sa ns oa no np 40000) :
    Calls Tryz.prog 13 #[dirV sa ns cs oa no co gen pa np cp wh wo, .int .i64 room] w fun e w' => ∃ d K F, e = .returned (.pointer (some ⟨d, 0, none⟩)) ∧ Rest w' d K 1000 F ∧ (∀ k, k < w.heap.size → K k) ∧ Below w.heap.size w w' := by
  obtain ⟨i3, hi3, hz30, hz31, hz32⟩ := info_parts Tryz.info3
  have hns := hsm.bns
  have hno := hsm.bno
  have hnp := hsm.bnp
  obtain ⟨w1, hw1⟩ : ∃ w1, w1 = w.alloc (.cells #[.slice sa ns cs, .slice oa no co, .int .u64 (gen : Int), .slice pa np cp, .bool wh, .bool wo] 27) := ⟨_, rfl⟩
  have hB1 : Below w.heap.size w w1 := by rw [hw1]; exact (Below.refl _ w).alloc (Nat.le_refl _) _
  have hX : w1.heap[w.heap.size]? = some (.cells #[.slice sa ns cs, .slice oa no co, .int .u64 (gen : Int), .slice pa np cp, .bool wh, .bool wo] 27) := by rw [hw1]; exact (MapKept.heap_alloc w _).1
  have hXl : w.heap.size < w1.heap.size := (Array.getElem?_eq_some_iff.1 hX).1
  have x0 : w1.cell? ⟨w.heap.size, 0, none⟩ = some (.slice sa ns cs) := by rw [cell_of_block hX]; rfl
  have x1 : w1.cell? ⟨w.heap.size, 1, none⟩ = some (.slice oa no co) := by rw [cell_of_block hX]; rfl
  have x2 : w1.cell? ⟨w.heap.size, 2, none⟩ = some (.int .u64 (gen : Int)) := by rw [cell_of_block hX]; rfl
  have x3 : w1.cell? ⟨w.heap.size, 3, none⟩ = some (.slice pa np cp) := by rw [cell_of_block hX]; rfl
  have x4 : w1.cell? ⟨w.heap.size, 4, none⟩ = some (.bool wh) := by rw [cell_of_block hX]; rfl
  have x5 : w1.cell? ⟨w.heap.size, 5, none⟩ = some (.bool wo) := by rw [cell_of_block hX]; rfl
  have cn := newDisk_any w1 room
  go_enter Tryz.func13, Tryz.ntmps13
  go_wp2_with fail
  rw [← hw1]
  refine cn.mono ?_
  rintro e w2 ⟨d, rfl, ⟨mn, ms, hd2⟩, hB2⟩
  have hlay : Lay w1 w2 d 0 (fun k => k < w1.heap.size) (.slice none 0 0) [] := ⟨⟨_, _, _, _, _, _, _, _, hd2⟩, fun k hk => hk, OwnI.nil _ _, fun g hg => (by cases hg), hB2⟩
  clear cn hd2 hB2
  go_wp2
  go_loopw [6, 7] (fun v i wr => ∃ (k : Nat) (z : List Int) (K : Nat → Prop), k ≤ ns ∧ i = .int .i64 k ∧ z.length ≤ k ∧ Lay w1 wr d k K v z) (fun _ i _ => ns - (intOf i).toNat)
  case atStart => exact ⟨0, [], _, Nat.zero_le _, rfl, by simp, hlay⟩
  case round =>
    obtain ⟨k, z, K, hk, rfl, hzk, hl⟩ := hrel
    obtain ⟨wq, rfl⟩ : ∃ wq, wq = wr := ⟨wr, rfl⟩
    obtain ⟨av, capv, rfl, hvc, hvm, hvi, hvn⟩ := hl.ids.shape
    have y0 := Below.keepc hl.below x0
    by_cases hlt : k < ns
    · obtain ⟨b, o, id, ar, nr, cr, at', nt, ct, lst, gn, rfl, e1, e2, e3, e4, e5, e6, e7⟩ := hs k hlt
      have hbd := hsm.seg k b o ar nr cr at' nt ct hlt rfl e2 e3
      have hBr : Below w.heap.size w wq := hB1.trans (hl.below.mono (by omega))
      have r1 := Below.keepc hBr e1
      have r2 := Below.keepc hBr e2
      have r3 := Below.keepc hBr e3
      have r4 := Below.keepc hBr e4
      have r5 := Below.keepc hBr e5
      have hki : (k : Int) < (ns : Int) := by omega
      have hB3 : Below wq.heap.size wq (wq.alloc (.cells #[.int .i64 id, .slice ar nr cr, .slice at' nt ct, .bool lst, .bool gn] 91)) := (Below.refl _ wq).alloc (Nat.le_refl _) _
      have hS3 : (wq.alloc (.cells #[.int .i64 id, .slice ar nr cr, .slice at' nt ct, .bool lst, .bool gn] 91)).heap[wq.heap.size]? = some (.cells #[.int .i64 id, .slice ar nr cr, .slice at' nt ct, .bool lst, .bool gn] 91) := (MapKept.heap_alloc wq _).1
      have hz3 : (wq.alloc (.cells #[.int .i64 id, .slice ar nr cr, .slice at' nt ct, .bool lst, .bool gn] 91)).heap.size = wq.heap.size + 1 := by simp
      go_wp2_with (first | (go_at_call 47; refine (id_any _ _).mono ?_; rintro e w' ⟨kid, rfl, hk1, hk2, hw'⟩; rw [hw']; clear hw'))
      generalize (wq.alloc (.cells #[.int .i64 id, .slice ar nr cr, .slice at' nt ct, .bool lst, .bool gn] 91)) = w3 at hB3 hS3 hz3 ⊢
      have hBw3 : Below w.heap.size w w3 := hBr.trans (hB3.mono hBr.size)
      clear r1 r2 r3 r4 r5 y0
      go_loopw [10, 11] (fun vb i w4 => ∃ (j n : Nat) (l : List UInt8), j ≤ nr ∧ i = .int .i64 j ∧ Own w4 (wq.heap.size + 1) vb n l ∧ n ≤ 96 * j ∧ Below (wq.heap.size + 1) w3 w4) (fun _ i _ => nr - (intOf i).toNat)
      case atStart => exact ⟨0, 0, [], Nat.zero_le _, rfl, Own.nil _ _, by omega, Below.refl _ _⟩
      case round =>
        obtain ⟨j, n, l, hj, rfl, hob, hn96, hB4⟩ := hrel
        have hBw4 : Below w.heap.size w wr := hBw3.trans (hB4.mono (by have := hBr.size; omega))
        have hBq4 : Below wq.heap.size wq wr := hB3.trans (hB4.mono (by omega))
        have hS4 : wr.heap[wq.heap.size]? = some (.cells #[.int .i64 id, .slice ar nr cr, .slice at' nt ct, .bool lst, .bool gn] 91) := (hB4.block _ (by omega)).trans hS3
        have s0 : wr.cell? ⟨wq.heap.size, 1, none⟩ = some (.slice ar nr cr) := by rw [cell_of_block hS4]; rfl
        have s2 : wr.cell? ⟨wq.heap.size, 2, none⟩ = some (.slice at' nt ct) := by rw [cell_of_block hS4]; rfl
        have s3 : wr.cell? ⟨wq.heap.size, 3, none⟩ = some (.bool lst) := by rw [cell_of_block hS4]; rfl
        have s4 : wr.cell? ⟨wq.heap.size, 4, none⟩ = some (.bool gn) := by rw [cell_of_block hS4]; rfl
        have hz4 : wq.heap.size + 1 ≤ wr.heap.size := by have := hB4.size; omega
        obtain ⟨ab, cb, rfl⟩ := hob.sl
        by_cases hltj : j < nr
        · obtain ⟨b', o', sq, key, val, del, rfl, d1, d2, d3, d4, d5, d6, d7⟩ := e6.2 j hltj
          have t1 := Below.keepc hBw4 d1
          have t3 := Below.keepc hBw4 d3
          have t4 := Below.keepc hBw4 d4
          have t5 := Below.keepc hBw4 d5
          have hji : (j : Int) < (nr : Int) := by omega
          have crec := record_any sq key val del wr
          go_wp2_with fail
          refine crec.mono ?_
          rintro e w5 ⟨rfl, hB5⟩
          have hB5' : Below (wq.heap.size + 1) w3 w5 := hB4.trans (hB5.mono hz4)
          have hob5 := hob.kept hB5 (Nat.le_refl _)
          have hz5 : wq.heap.size + 1 ≤ w5.heap.size := Nat.le_trans hz4 hB5.size
          clear crec t1 t3 t4 t5 s0 s2 s3 s4 hS4
          have hB6 : Below w5.heap.size w5 (w5.alloc (.cells #[.int .u64 (sq : Int), .string key, .string val, .bool del, .int .i64 0] 116)) := (Below.refl _ w5).alloc (Nat.le_refl _) _
          have cen := enc_any sq key val del (w5.alloc (.cells #[.int .u64 (sq : Int), .string key, .string val, .bool del, .int .i64 0] 116)) d2 d6 d7
          go_wp2_with fail
          refine cen.mono ?_
          rintro e w7 ⟨henc, hB7⟩
          have hB57 : Below w5.heap.size w5 w7 := hB6.trans (hB7.mono hB6.size)
          have hB7' : Below (wq.heap.size + 1) w3 w7 := hB5'.trans (hB57.mono hz5)
          have hob7 := hob5.kept hB57 (Nat.le_refl _)
          have hz7 : wq.heap.size + 1 ≤ w7.heap.size := Nat.le_trans hz5 hB57.size
          clear cen hB6 hB7 hB57 hob5 hB5' hob hB4 hB5
          rcases henc with ⟨f, rfl, hf⟩ | ⟨ge, ne, ce, le, rfl, hoe, hne⟩
          · go_wp2
            go_roundw
            case rel => exact ⟨j + 1, n, l, by omega, by go_num, hob7, by omega, hB7'⟩
            case measure => simp [intOf]; omega
          · have hbe : Bs w7 (some ⟨ge, 0, none⟩) le := by
              have := hoe.bs 0 ne (by omega)
              rwa [List.drop_zero, List.take_of_length_le (by rw [hoe.1]; exact Nat.le_refl _)] at this
            have hle := hoe.1
            clear hoe
            go_wp2_with (first | (at_builtin; refine app_bytes _ rfl _ _ rfl (wq.heap.size + 1) n _ l rfl hob7 (some ⟨ge, 0, none⟩) ne ce le rfl hle hbe (fun e => by cases e) (by omega) hz7 ?_; intro v8 w8 ho8 hB8; obtain ⟨a8, c8, rfl⟩ := ho8.sl))
            go_wp2
            go_roundw
            case rel => exact ⟨j + 1, n + ne, l ++ le, by omega, by go_num, ho8, by omega, hB7'.trans hB8⟩
            case measure => simp [intOf]; omega
        · obtain rfl : j = nr := by omega
          obtain ⟨_, hnilt, lt, hlt1, hbt⟩ := e7.stay hBw4
          have hz39 : nt ≤ 40000 ∧ 20 * j ≤ 40000 := by omega
          cases gn with
          | true =>
            go_wp2_with (first | (at_builtin; refine app_bytes _ rfl _ _ rfl (wq.heap.size + 1) n _ l rfl hob at' nt ct lt rfl hlt1 hbt hnilt (by omega) hz4 ?_; intro v8 w8 ho8 hB8; obtain ⟨a8, c8, rfl⟩ := ho8.sl; have s3a := (hB8.cell (p := ⟨wq.heap.size, 3, none⟩) (Nat.lt_succ_self _)).trans s3; have s4a := (hB8.cell (p := ⟨wq.heap.size, 4, none⟩) (Nat.lt_succ_self _)).trans s4))
            have hBq8 : Below wq.heap.size wq w8 := hBq4.trans (hB8.mono (by omega))
            have hl8 := hl.more hBq8
            have hz8 : wq.heap.size + 1 ≤ w8.heap.size := Nat.le_trans hz4 hB8.size
            have cin := in_any av z.length capv z (kid : Int) w8 rfl (by omega) hl8.is.zs
            cases lst with
            | false =>
              go_wp2_with (first | (go_at_call 51; refine cin.mono ?_; rintro e w' ⟨rfl, hw'⟩; rw [hw']; clear hw'))
              go_roundw
              case rel => exact ⟨k + 1, z, _, by omega, by go_num, by omega, hl8.up (Nat.le_succ _)⟩
              case measure => simp [intOf]; omega
            | true =>
              cases hin : decide ((kid : Int) ∈ z) with
              | true =>
                rw [hin] at cin
                clear hin
                go_wp2_with (first | (go_at_call 51; refine cin.mono ?_; rintro e w' ⟨rfl, hw'⟩; rw [hw']; clear hw'))
                go_roundw
                case rel => exact ⟨k + 1, z, _, by omega, by go_num, by omega, hl8.up (Nat.le_succ _)⟩
                case measure => simp [intOf]; omega
              | false =>
                rw [hin] at cin
                clear hin
                have hidA := hl8.ids.2.alloc (.cells #[.int .i64 (kid : Int)] 3)
                have hsA : w1.heap.size ≤ (w8.alloc (.cells #[.int .i64 (kid : Int)] 3)).heap.size := by have := hl8.below.size; simp; omega
                go_wp2_with (first | (go_at_call 51; refine cin.mono ?_; rintro e w' ⟨rfl, hw'⟩; rw [hw']; clear hw') | (at_builtin; refine wpList_append_own_at _ rfl _ _ 76 rfl w1.heap.size 3 i3 (.int .i64 0) 1 8 Tryz.underlying76 hi3 hz30 hz31 hz32 rfl (by decide) _ z.length (icells z) rfl hidA ⟨w8.heap.size, 0, none⟩ 1 1 [.int .i64 (kid : Int)] rfl rfl (cell_one_new _ _ _) (by simp [Value.oneCell']) (by unfold maxLen; omega) (by omega) hsA ?_; intro v11 w11 hr11 hg11 _ hat11))
                obtain ⟨K11, hl11⟩ := Lay.app hl8 hr11 hg11 hat11
                obtain ⟨a11, c11, rfl, _⟩ := row_shape hr11
                clear hr11 hg11 hat11 hidA hsA
                go_wp2
                go_roundw
                case rel =>
                  have he : (z ++ [(kid : Int)]).length = z.length + 1 := by simp
                  exact ⟨k + 1, z ++ [(kid : Int)], K11, by omega, by go_num, by rw [he]; omega, hl11.up (Nat.le_succ _)⟩
                case measure => simp [intOf]; omega
          | false =>
            go_wp2_with (first | (at_builtin; refine app_bytes _ rfl _ _ rfl (wq.heap.size + 1) n _ l rfl hob at' nt ct lt rfl hlt1 hbt hnilt (by omega) hz4 ?_; intro v8 w8 ho8 hB8; obtain ⟨a8, c8, rfl⟩ := ho8.sl; have s3a := (hB8.cell (p := ⟨wq.heap.size, 3, none⟩) (Nat.lt_succ_self _)).trans s3; have s4a := (hB8.cell (p := ⟨wq.heap.size, 4, none⟩) (Nat.lt_succ_self _)).trans s4))
            have hBq8 : Below wq.heap.size wq w8 := hBq4.trans (hB8.mono (by omega))
            have hl8 := hl.more hBq8
            have hz8 : wq.heap.size + 1 ≤ w8.heap.size := Nat.le_trans hz4 hB8.size
            have hnm := name_of sData kid w8 (by decide) hk2
            have hln : (segName sData kid).length ≤ maxLen := by simp [segName, digs_length, sData, maxLen]
            generalize segName sData kid = nm at hnm hln
            refine hnm.mono ?_
            rintro e w9 ⟨rfl, hB9⟩
            have hl9 := hl8.more hB9
            have hLw : Laid w9 := hL.below (hBw4.trans ((hB8.mono (by have := hBr.size; omega)).trans (hB9.mono (by have := hBr.size; omega)))) (Nat.le_refl _)
            have ho9 := ho8.kept hB9 (Nat.le_refl _)
            have hsl9 := ho9.slb (by omega)
            obtain ⟨F9, hF9⟩ := hl9.dk
            have cfl := file_any hF9 hLw nm hln (by omega) a8 (n + nt) c8 (l ++ lt) hsl9.len (by omega) hsl9.bs hsl9.nil (fun bb oo e _ => by
              subst e
              have := ho8.lt bb rfl
              exact .inl (.inr ⟨by omega, this.2⟩))
            have s3b : w9.cell? ⟨wq.heap.size, 3, none⟩ = some (.bool lst) := Below.keepc hB9 s3a
            clear hnm
            go_wp2_with fail
            refine cfl.mono ?_
            rintro e w10 ⟨rfl, hd10, hk10⟩
            have hl10 := hl9.turn hd10 hk10
            have s3c : w10.cell? ⟨wq.heap.size, 3, none⟩ = some (.bool lst) := by
              rw [World.cell?_of_block (hk10.block wq.heap.size (.inl (.inr ⟨Nat.le_refl _, by omega⟩)) (World.block_lt_of_cell? _ _ s3b))]; exact s3b
            clear cfl hk10 hd10 hF9 hsl9 ho9 ho8 hl9 hl8 hB9 hB8 hLw
            have cin := in_any av z.length capv z (kid : Int) w10 rfl (by omega) hl10.is.zs
            cases lst with
            | false =>
              go_wp2_with (first | (go_at_call 51; refine cin.mono ?_; rintro e w' ⟨rfl, hw'⟩; rw [hw']; clear hw'))
              go_roundw
              case rel => exact ⟨k + 1, z, _, by omega, by go_num, by omega, hl10⟩
              case measure => simp [intOf]; omega
            | true =>
              cases hin : decide ((kid : Int) ∈ z) with
              | true =>
                rw [hin] at cin
                clear hin
                go_wp2_with (first | (go_at_call 51; refine cin.mono ?_; rintro e w' ⟨rfl, hw'⟩; rw [hw']; clear hw'))
                go_roundw
                case rel => exact ⟨k + 1, z, _, by omega, by go_num, by omega, hl10⟩
                case measure => simp [intOf]; omega
              | false =>
                rw [hin] at cin
                clear hin
                have hidA := hl10.ids.2.alloc (.cells #[.int .i64 (kid : Int)] 3)
                have hsA : w1.heap.size ≤ (w10.alloc (.cells #[.int .i64 (kid : Int)] 3)).heap.size := by have := hl10.below.size; simp; omega
                go_wp2_with (first | (go_at_call 51; refine cin.mono ?_; rintro e w' ⟨rfl, hw'⟩; rw [hw']; clear hw') | (at_builtin; refine wpList_append_own_at _ rfl _ _ 76 rfl w1.heap.size 3 i3 (.int .i64 0) 1 8 Tryz.underlying76 hi3 hz30 hz31 hz32 rfl (by decide) _ z.length (icells z) rfl hidA ⟨w10.heap.size, 0, none⟩ 1 1 [.int .i64 (kid : Int)] rfl rfl (cell_one_new _ _ _) (by simp [Value.oneCell']) (by unfold maxLen; omega) (by omega) hsA ?_; intro v11 w11 hr11 hg11 _ hat11))
                obtain ⟨K11, hl11⟩ := Lay.app hl10 hr11 hg11 hat11
                obtain ⟨a11, c11, rfl, _⟩ := row_shape hr11
                clear hr11 hg11 hat11 hidA hsA
                go_wp2
                go_roundw
                case rel =>
                  have he : (z ++ [(kid : Int)]).length = z.length + 1 := by simp
                  exact ⟨k + 1, z ++ [(kid : Int)], K11, by omega, by go_num, by rw [he]; omega, hl11⟩
                case measure => simp [intOf]; omega
    · obtain rfl : k = ns := by omega
      have hl0 := hl
      have y2 := Below.keepc hl.below x2
      have y3 := Below.keepc hl.below x3
      have y4 := Below.keepc hl.below x4
      have y5 := Below.keepc hl.below x5
      have cwm := wm_any gen av capv z.length z wq hgen rfl (by omega) hl.is
      go_wp2_with fail
      refine cwm.mono ?_
      rintro e w3 ⟨vm, fm, nm, lm, rfl, hom, hnm, hB3⟩
      have hl3 := hl.more hB3
      have y3a := Below.keepc hB3 y3
      have y4a := Below.keepc hB3 y4
      have y5a := Below.keepc hB3 y5
      have hBw3 : Below w.heap.size w w3 := hB1.trans (hl3.below.mono (by omega))
      obtain ⟨_, hnilp, lp, hlp1, hbp⟩ := hp.stay hBw3
      have hs3 := hB3.size
      obtain ⟨am, cm, rfl⟩ := hom.sl
      clear cwm y2 y3 y4 y5
      go_upto_region 24 with fail
      go_cut [103] (fun b wc => wc = w3 ∧ ∃ B : Bool, b = .bool B)
      case first =>
        by_cases hnp0 : (0 : Int) < (np : Int)
        · have b1 : decide ((0 : Int) < (np : Int)) = true := by simpa using hnp0
          clear hnp0
          go_wp2_with fail
          all_goals
            go_meet
            case rel => exact ⟨rfl, _, rfl⟩
        · have b1 : decide ((0 : Int) < (np : Int)) = false := by simpa using hnp0
          clear hnp0
          go_wp2_with fail
          all_goals
            go_meet
            case rel => exact ⟨rfl, _, rfl⟩
      case rest =>
        obtain ⟨hwc, B, rfl⟩ := hcut
        rw [hwc]
        clear hwc
        go_upto_if 103 with fail
        go_cut [17] (fun vm wx => wx = w3 ∧ ∃ n l, Own w3 wq.heap.size vm n l ∧ n ≤ 254)
        case first =>
          cases B with
          | true =>
            go_wp2_with fail
            go_meet
            case rel => exact ⟨rfl, 0, [], Own.nil _ _, by omega⟩
          | false =>
            go_wp2_with fail
            go_meet
            case rel => exact ⟨rfl, nm, lm, hom, hnm⟩
        case rest =>
          obtain ⟨hwc, n5, l5, ho5, hn5⟩ := hcut
          rw [hwc]
          clear hwc hom
          obtain ⟨a5, c5, rfl⟩ := ho5.sl
          go_upto_if 110 with (first | (at_builtin; refine app_bytes _ rfl _ _ rfl wq.heap.size n5 _ l5 rfl ho5 pa np cp lp rfl hlp1 hbp hnilp (by omega) hs3 ?_; intro v6 w6 ho6 hB6; obtain ⟨a6, c6, rfl⟩ := ho6.sl; have y5b := (hB6.cell (p := ⟨w.heap.size, 5, none⟩) (Nat.lt_of_lt_of_le hXl hl.below.size)).trans y5a))
          have hBq6 : Below wq.heap.size wq w6 := hB3.trans hB6
          have hl6 := hl.more hBq6
          go_cut [] (fun wx => ∃ K, Lay w1 wx d (k + 1) K (.slice av z.length capv) z)
          case first =>
            cases wo with
            | true =>
              go_wp2_with fail
              go_meet
              case rel => exact ⟨_, hl6.up (Nat.le_succ _)⟩
            | false =>
              have hLw : Laid w6 := hL.below (hB1.trans (hl6.below.mono (by omega))) (Nat.le_refl _)
              have hsl6 := ho6.slb (by omega)
              obtain ⟨F6, hF6⟩ := hl6.dk
              have cfl := file_any hF6 hLw sManifest (by decide) (by omega) a6 (n5 + np) c6 (l5 ++ lp) hsl6.len (by omega) hsl6.bs hsl6.nil (fun bb oo e _ => by
                subst e
                have := ho6.lt bb rfl
                exact .inr ⟨by omega, this.2⟩)
              go_wp2_with fail
              refine cfl.mono ?_
              rintro e w7 ⟨rfl, hd7, hk7⟩
              have hl7 := hl6.turn hd7 hk7
              clear cfl hk7 hd7 hF6 hsl6 ho6 hLw
              go_wp2_with fail
              go_meet
              case rel => exact ⟨_, hl7⟩
          case rest =>
            obtain ⟨K7, hl7⟩ := hcut
            clear hl6 hBq6 ho6 hB6 hB3 hl3 y3a y4a y5a ho5
            go_wp2
            go_loopw [19] (fun i wr => ∃ (j : Nat) (K : Nat → Prop), j ≤ no ∧ i = .int .i64 j ∧ Lay w1 wr d (k + 1 + j) K (.slice av z.length capv) z) (fun i _ => no - (intOf i).toNat)
            case atStart => exact ⟨0, K7, Nat.zero_le _, rfl, hl7⟩
            case round =>
              obtain ⟨j, K8, hj, rfl, hl8⟩ := hrel
              have z1 := Below.keepc hl8.below x1
              have hBw8 : Below w.heap.size w wr := hB1.trans (hl8.below.mono (by omega))
              by_cases hltj : j < no
              · obtain ⟨b, o, s, hint, ab, nb, cb, rfl, e1, e2, e3, e4, e5⟩ := ho j hltj
                have hbd := hsm.oth j b o ab nb cb hltj rfl e3
                have r1 := Below.keepc hBw8 e1
                have r2 := Below.keepc hBw8 e2
                have r3 := Below.keepc hBw8 e3
                have hji : (j : Int) < (no : Int) := by omega
                unfold reachN at e4
                by_cases hh : (0 : Int) < hint
                · have b1 : decide ((0 : Int) < hint) = true := by simpa using hh
                  clear hh
                  go_wp2_with (first | (go_at_call 47; refine (id_any _ _).mono ?_; rintro e w' ⟨kk, rfl, hkk1, hkk2, hw'⟩; rw [hw']; clear hw'))
                  have hnm := name_of sHint kk wr (by decide) hkk2
                  have hln : (segName sHint kk).length ≤ maxLen := by simp [segName, digs_length, sHint, maxLen]
                  generalize segName sHint kk = nmh at hnm hln
                  refine hnm.mono ?_
                  rintro e w9 ⟨rfl, hB9⟩
                  have hl9 := hl8.more hB9
                  have hBw9 : Below w.heap.size w w9 := hBw8.trans (hB9.mono hBw8.size)
                  have r3b := Below.keepc hB9 r3
                  have z1b := Below.keepc hB9 z1
                  clear hnm
                  obtain ⟨_, hnilb, lb, hlb1, hbb⟩ := e5.stay hBw9
                  have hLw : Laid w9 := hL.below hBw9 (Nat.le_refl _)
                  obtain ⟨F9, hF9⟩ := hl9.dk
                  have cfl := file_any hF9 hLw nmh hln (by omega) ab nb cb lb hlb1 (by omega) hbb hnilb (fun bb oo e hpos => by
                    obtain ⟨_, _, l0, hl0', hb0⟩ := e5
                    obtain ⟨b2, o2, e2', hc2⟩ := hb0 0 (by omega)
                    rw [e] at e2'
                    cases e2'
                    exact hl9.low bb (Nat.lt_trans (World.block_lt_of_cell? _ _ hc2) hXl))
                  go_wp2_with fail
                  refine cfl.mono ?_
                  rintro e w10 ⟨rfl, hd10, hk10⟩
                  have hl10 := hl9.turn hd10 hk10
                  clear cfl hk10 hd10 hF9 hLw
                  go_wp2
                  go_roundw
                  case rel => exact ⟨j + 1, _, by omega, by go_num, hl10⟩
                  case measure => simp [intOf]; omega
                · have b1 : decide ((0 : Int) < hint) = false := by simpa using hh
                  clear hh
                  obtain ⟨_, hnilb, lb, hlb1, hbb⟩ := e5.stay hBw8
                  have hLw : Laid wr := hL.below hBw8 (Nat.le_refl _)
                  obtain ⟨F9, hF9⟩ := hl8.dk
                  have cfl := file_any hF9 hLw s (by unfold maxLen; omega) (by omega) ab nb cb lb hlb1 (by omega) hbb hnilb (fun bb oo e hpos => by
                    obtain ⟨_, _, l0, hl0', hb0⟩ := e5
                    obtain ⟨b2, o2, e2', hc2⟩ := hb0 0 (by omega)
                    rw [e] at e2'
                    cases e2'
                    exact hl8.low bb (Nat.lt_trans (World.block_lt_of_cell? _ _ hc2) hXl))
                  go_wp2_with fail
                  refine cfl.mono ?_
                  rintro e w10 ⟨rfl, hd10, hk10⟩
                  have hl10 := hl8.turn hd10 hk10
                  clear cfl hk10 hd10 hF9 hLw
                  go_wp2
                  go_roundw
                  case rel => exact ⟨j + 1, _, by omega, by go_num, hl10⟩
                  case measure => simp [intOf]; omega
              · obtain rfl : j = no := by omega
                obtain ⟨F8, mn8, ms8, now8, safe8, mv8, L8, room8, hd8⟩ := hl8.dk
                have csy := syncDir_any hd8 (by omega)
                go_wp2_with fail
                refine csy.mono ?_
                rintro e w9 ⟨rfl, hd9, hk9⟩
                have hB9 : Below w.heap.size w w9 := hBw8.trans ⟨hk9.os, hk9.tape, hk9.output, hk9.size, fun q hq => hk9.block q (hl8.low q (by omega)) (Nat.lt_of_lt_of_le hq hBw8.size)⟩
                clear csy hk9
                go_wp2
                go_ret
                exact ⟨d, K8, F8, rfl, ⟨_, _, _, _, hd9.mono (by omega)⟩, fun q hq => hl8.low q (by omega), hB9⟩
end Go.Proofs.YtakjpgjcfecfiaaGreatDoor
