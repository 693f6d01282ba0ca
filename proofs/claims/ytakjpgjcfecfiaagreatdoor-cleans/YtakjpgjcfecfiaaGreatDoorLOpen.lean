import Derived.Test.YtakjpgjcfecfiaaGreatDoorLArg
import Derived.ProofKit
import Derived.OpenShut
import Derived.Lib.SmallJoins
import Derived.SizedLaws
import Derived.Deep.Slices
/- A directory that came in: what its memory holds. -/
namespace Go.Proofs.YtakjpgjcfecfiaaGreatDoor
open Go.ChangeShapes Go.WideShapes Go.ChangeAt Go.RowKit Go.Joins Go.Deep

/-- within the form's reach -/
def Wt {H : Type} (t : TypeId) (d : DataW H) : Prop := ∀ n ∈ d.weights Tryz.prog t, n ≤ reachBytes
section
variable {H : Type}
theorem wt_field {t t' : TypeId} {fs : Array Field} {parts : List (DataW H)} {d : DataW H} (h : Wt t (.agg parts)) (hu : Tryz.prog.underlying t = some (.struct fs)) (j : Nat) (ht : (fs.toList.map (·.type))[j]? = some t') (hd : parts[j]? = some d) : Wt t' d := by
  intro n hn
  refine h n ?_
  unfold DataW.weights
  rw [hu]
  exact DataW.weights_mem_each ht hd n hn
theorem weights_all {P : Program} {e : TypeId} : ∀ {l : List (DataW H)} {d : DataW H}, d ∈ l → ∀ n ∈ d.weights P e, n ∈ DataW.weightsAll P e l
  | x :: l, d, h, n, hn => by
    unfold DataW.weightsAll
    rcases List.mem_cons.1 h with rfl | h
    · exact List.mem_append_left _ hn
    · exact List.mem_append_right _ (weights_all h n hn)
theorem wt_elem {t e : TypeId} {el sp : List (DataW H)} {d : DataW H} (h : Wt t (.slice el sp)) (hu : Tryz.prog.underlying t = some (.slice e)) (hd : d ∈ el) : Wt e d := by
  intro n hn
  refine h n ?_
  unfold DataW.weights
  rw [hu]
  exact List.mem_cons_of_mem _ (List.mem_append_left _ (weights_all hd n hn))
theorem wt_len {t e : TypeId} {el sp : List (DataW H)} (h : Wt t (.slice el sp)) (hu : Tryz.prog.underlying t = some (.slice e)) : (el.length + sp.length) * Tryz.prog.bytesOf e ≤ reachBytes := by
  refine h _ ?_
  unfold DataW.weights
  rw [hu]
  exact List.mem_cons_self
theorem wt_str {t : TypeId} {b : List UInt8} (h : Wt (H := H) t (.lit (.string b))) : b.length ≤ reachBytes := h _ (by simp [DataW.weights])

theorem Tryz.c8 : Tryz.prog.cellsOf 5 = 1 := by kernel_rfl
theorem Tryz.y8 : Tryz.prog.bytesOf 5 = 1 := by kernel_rfl
theorem bytes_of' (zs : List Int) (h : ∀ n ∈ zs, (Lit.int .u8 n).wf = true) : ∃ l : List UInt8, l.length = zs.length ∧ ∀ i, i < zs.length → zs.getD i 0 = at8 l i := by
  refine ⟨zs.map fun n => UInt8.ofNat n.toNat, by simp, fun i hi => ?_⟩
  have hb := bounds_u8 (h zs[i] (List.getElem_mem hi))
  unfold at8
  simp [hi]
  omega
variable {enc : TypeId × Value → H} {W : World}
theorem open_bytesAt {fuel : Nat} {v : Value} {y : DataW H × List MemPlace} (h : DataW.trod enc Tryz.prog W 0 (fun _ => true) true fuel 25 [v] = some y) (hw : Wt 25 y.1) : ∃ a n cap, v = .slice a n cap ∧ BytesAt W a n cap := by
  rcases open_ints Tryz.underlying25 Tryz.underlying5 Tryz.c8 h with ⟨hcs, hx⟩ | ⟨a, len, cap, zs, hcs, _, hl, hm, hz, hx, hcell, hwz⟩
  · simp at hcs
    exact ⟨none, 0, 0, hcs, by simp, fun _ => ⟨rfl, rfl⟩, [], rfl, fun i hi => by simp at hi⟩
  · simp at hcs
    subst hx
    have h1 := wt_len hw Tryz.underlying25
    rw [Tryz.y8] at h1
    simp only [if_true] at hz
    simp only [lits, List.length_map, List.length_take, List.length_drop, reachBytes] at h1
    obtain ⟨l, hll, hat⟩ := bytes_of' zs hwz
    refine ⟨some a, len, cap, hcs, by unfold reachN; omega, fun e => (by cases e), l.take len, by simp; omega, ?_⟩
    intro i hi
    have hi2 : i < len := by simp at hi; omega
    obtain ⟨b, off, rfl, hc0⟩ := ints_at hcell (show 0 < zs.length by omega)
    refine ⟨b, off, rfl, ?_⟩
    have hc := hcell i (by omega)
    rw [hat i (by omega), Addr.add_lit] at hc
    rw [hc]
    congr 2
    simp [at8, hi2]

/-- a struct of one-cell fields, field by field -/
theorem elem_fields {t : TypeId} {fs : Array Field} {fuel : Nat} {cs : List Value} {x : DataW H × List MemPlace} (hu : Tryz.prog.underlying t = some (.struct fs)) (hone : oneCellFields Tryz.prog fs = true) (hC : Tryz.prog.cellsOf t = fs.size)
    (h : DataW.trod enc Tryz.prog W 0 (fun _ => true) true fuel t cs = some x) :
    ∃ (ds : List (DataW H)) (n : Nat), x.1 = .agg ds ∧ cs.length = fs.size ∧ ∀ (i : Nat) (f : Field), fs[i]? = some f → ∃ y, DataW.trod enc Tryz.prog W 0 (fun _ => true) true n f.type [cs.getD i undef] = some y ∧ ds[i]? = some y.1 := by
  obtain ⟨xs, n, _, rfl, hl, hxl, hf⟩ := DataW.trod_struct hu h
  rw [hC] at hl
  refine ⟨_, n, rfl, hl, fun i f hi => ?_⟩
  have hlt : i < fs.size := (Array.getElem?_eq_some_iff.1 hi).1
  obtain ⟨ho, hc1⟩ := hone_of hone i f hi
  have g := hf i f hi
  rw [ho, hc1, take1_drop cs i undef (by omega), List.getElem?_eq_getElem (by omega)] at g
  exact ⟨xs[i], g, by simp [show i < xs.length by omega]⟩
/-- an element's cells -/
theorem elem_cells {a : Addr} {k i : Nat} {cs cs0 : List Value} (h : W.cells? 0 (a.add (i * k)) k = some cs) (h0 : W.cells? 0 (a.add (0 * k)) k = some cs0) (hk : 0 < k) : ∃ b o, a = ⟨b, o, none⟩ ∧ ∀ j, j < k → W.cell? ⟨b, o + i * k + j, none⟩ = some (cs.getD j undef) := by
  obtain ⟨_, hlen, hc⟩ := World.cells?_some h
  obtain ⟨_, hlen0, hc0⟩ := World.cells?_some h0
  obtain ⟨b, o, spot⟩ := a
  have h1 := hc0 0 hk
  rw [List.getElem?_eq_getElem (by omega)] at h1
  have hs : spot = none := by simpa [Addr.add] using World.cell?_spot h1
  subst hs
  refine ⟨b, o, rfl, fun j hj => ?_⟩
  have hj' := hc j hj
  rw [List.getElem?_eq_getElem (by omega)] at hj'
  rw [Addr.add_lit, Addr.add_lit] at hj'
  rw [hj']
  simp [List.getD_eq_getElem?_getD, show j < cs.length by omega]
theorem Tryz.yRec : Tryz.prog.bytesOf 111 = 48 := by kernel_rfl
theorem Tryz.ySeg : Tryz.prog.bytesOf 91 = 64 := by kernel_rfl
theorem Tryz.yOth : Tryz.prog.bytesOf 113 = 48 := by kernel_rfl
theorem Tryz.cRec : Tryz.prog.cellsOf 111 = 4 := by kernel_rfl
theorem Tryz.cSeg : Tryz.prog.cellsOf 91 = 5 := by kernel_rfl
theorem Tryz.cOth : Tryz.prog.cellsOf 113 = 3 := by kernel_rfl

set_option maxRecDepth 100000 in
theorem open_recs {fuel : Nat} {v : Value} {y : DataW H × List MemPlace} (h : DataW.trod enc Tryz.prog W 0 (fun _ => true) true fuel 89 [v] = some y) (hw : Wt 89 y.1) : ∃ a n cap, v = .slice a n cap ∧ RecsAt W a n := by
  rcases open_slice Tryz.underlying89 h with ⟨hcs, hx⟩ | ⟨a, len, cap, m, n, D, Pl, hcs, _, hl, hm, hmm, rfl, hel⟩
  · simp at hcs
    exact ⟨none, 0, 0, hcs, by simp, fun k hk => by omega⟩
  · simp at hcs
    simp only [if_true] at hmm
    have h1 := wt_len hw Tryz.underlying89
    rw [Tryz.yRec] at h1
    simp only [List.length_map, List.length_range, reachBytes] at h1
    refine ⟨some a, len, cap, hcs, by unfold reachN; omega, fun k hk => ?_⟩
    obtain ⟨cs, hc, ht⟩ := hel k (by omega)
    have hwk : Wt 111 (D k) := wt_elem hw Tryz.underlying89 (List.mem_map.2 ⟨k, List.mem_range.2 hk, rfl⟩)
    obtain ⟨cs0, hc0, _⟩ := hel 0 (by omega)
    rw [Tryz.cRec] at hc hc0
    obtain ⟨b, o, rfl, hcell⟩ := elem_cells hc hc0 (by omega)
    obtain ⟨ds, n', hd, hlen, hf⟩ := elem_fields Tryz.underlying111 (by kernel_rfl) Tryz.cRec ht
    simp only at hd
    rw [hd] at hwk
    obtain ⟨y0, t0, g0⟩ := hf 0 _ rfl
    obtain ⟨y1, t1, g1⟩ := hf 1 _ rfl
    obtain ⟨y2, t2, g2⟩ := hf 2 _ rfl
    obtain ⟨y3, t3, g3⟩ := hf 3 _ rfl
    obtain ⟨sq, e0, _, wsq⟩ := DataW.trod_int Tryz.underlying24 t0
    obtain ⟨ks, e1, r1, _⟩ := DataW.trod_string Tryz.underlying9 t1
    obtain ⟨vs, e2, r2, _⟩ := DataW.trod_string Tryz.underlying9 t2
    obtain ⟨dl, e3, _⟩ := DataW.trod_bool Tryz.underlying4 t3
    have w1 := wt_field hwk Tryz.underlying111 1 rfl g1
    have w2 := wt_field hwk Tryz.underlying111 2 rfl g2
    rw [r1] at w1
    rw [r2] at w2
    have l1 := wt_str w1
    have l2 := wt_str w2
    have bsq := bounds_u64 wsq
    obtain ⟨sqn, rfl⟩ := Int.eq_ofNat_of_zero_le bsq.1
    simp only [List.cons.injEq, and_true] at e0 e1 e2 e3
    refine ⟨b, o, sqn, ks, vs, dl, rfl, ?_, by omega, ?_, ?_, ?_, by simpa [reachN, reachBytes] using l1, by simpa [reachN, reachBytes] using l2⟩
    · have := hcell 0 (by omega); rw [e0] at this; simpa using this
    · have := hcell 1 (by omega); rw [e1] at this; exact this
    · have := hcell 2 (by omega); rw [e2] at this; exact this
    · have := hcell 3 (by omega); rw [e3] at this; exact this
set_option maxRecDepth 100000 in
theorem open_segs {fuel : Nat} {v : Value} {y : DataW H × List MemPlace} (h : DataW.trod enc Tryz.prog W 0 (fun _ => true) true fuel 22 [v] = some y) (hw : Wt 22 y.1) : ∃ a n cap, v = .slice a n cap ∧ n ≤ reachN ∧ SegsAt W a n := by
  rcases open_slice Tryz.underlying22 h with ⟨hcs, hx⟩ | ⟨a, len, cap, m, n, D, Pl, hcs, _, hl, hm, hmm, rfl, hel⟩
  · simp at hcs
    exact ⟨none, 0, 0, hcs, by simp, fun k hk => by omega⟩
  · simp at hcs
    simp only [if_true] at hmm
    have h1 := wt_len hw Tryz.underlying22
    rw [Tryz.ySeg] at h1
    simp only [List.length_map, List.length_range, reachBytes] at h1
    refine ⟨some a, len, cap, hcs, by unfold reachN; omega, fun k hk => ?_⟩
    obtain ⟨cs, hc, ht⟩ := hel k (by omega)
    have hwk : Wt 91 (D k) := wt_elem hw Tryz.underlying22 (List.mem_map.2 ⟨k, List.mem_range.2 hk, rfl⟩)
    obtain ⟨cs0, hc0, _⟩ := hel 0 (by omega)
    rw [Tryz.cSeg] at hc hc0
    obtain ⟨b, o, rfl, hcell⟩ := elem_cells hc hc0 (by omega)
    obtain ⟨ds, n', hd, hlen, hf⟩ := elem_fields Tryz.underlying91 (by kernel_rfl) Tryz.cSeg ht
    simp only at hd
    rw [hd] at hwk
    obtain ⟨y0, t0, g0⟩ := hf 0 _ rfl
    obtain ⟨y1, t1, g1⟩ := hf 1 _ rfl
    obtain ⟨y2, t2, g2⟩ := hf 2 _ rfl
    obtain ⟨y3, t3, g3⟩ := hf 3 _ rfl
    obtain ⟨y4, t4, g4⟩ := hf 4 _ rfl
    obtain ⟨id, e0, _, _⟩ := DataW.trod_int Tryz.underlying3 t0
    obtain ⟨ar, nr, cr, e1, hrec⟩ := open_recs t1 (wt_field hwk Tryz.underlying91 1 rfl g1)
    obtain ⟨at', nt, ct, e2, hby⟩ := open_bytesAt t2 (wt_field hwk Tryz.underlying91 2 rfl g2)
    obtain ⟨l, e3, _⟩ := DataW.trod_bool Tryz.underlying4 t3
    obtain ⟨g, e4, _⟩ := DataW.trod_bool Tryz.underlying4 t4
    simp only [List.cons.injEq, and_true] at e0 e3 e4
    refine ⟨b, o, id, ar, nr, cr, at', nt, ct, l, g, rfl, ?_, ?_, ?_, ?_, ?_, hrec, hby⟩
    · have := hcell 0 (by omega); rw [e0] at this; simpa using this
    · have := hcell 1 (by omega); rw [e1] at this; exact this
    · have := hcell 2 (by omega); rw [e2] at this; exact this
    · have := hcell 3 (by omega); rw [e3] at this; exact this
    · have := hcell 4 (by omega); rw [e4] at this; exact this
set_option maxRecDepth 100000 in
theorem open_oths {fuel : Nat} {v : Value} {y : DataW H × List MemPlace} (h : DataW.trod enc Tryz.prog W 0 (fun _ => true) true fuel 23 [v] = some y) (hw : Wt 23 y.1) : ∃ a n cap, v = .slice a n cap ∧ n ≤ reachN ∧ OthsAt W a n := by
  rcases open_slice Tryz.underlying23 h with ⟨hcs, hx⟩ | ⟨a, len, cap, m, n, D, Pl, hcs, _, hl, hm, hmm, rfl, hel⟩
  · simp at hcs
    exact ⟨none, 0, 0, hcs, by simp, fun k hk => by omega⟩
  · simp at hcs
    simp only [if_true] at hmm
    have h1 := wt_len hw Tryz.underlying23
    rw [Tryz.yOth] at h1
    simp only [List.length_map, List.length_range, reachBytes] at h1
    refine ⟨some a, len, cap, hcs, by unfold reachN; omega, fun k hk => ?_⟩
    obtain ⟨cs, hc, ht⟩ := hel k (by omega)
    have hwk : Wt 113 (D k) := wt_elem hw Tryz.underlying23 (List.mem_map.2 ⟨k, List.mem_range.2 hk, rfl⟩)
    obtain ⟨cs0, hc0, _⟩ := hel 0 (by omega)
    rw [Tryz.cOth] at hc hc0
    obtain ⟨b, o, rfl, hcell⟩ := elem_cells hc hc0 (by omega)
    obtain ⟨ds, n', hd, hlen, hf⟩ := elem_fields Tryz.underlying113 (by kernel_rfl) Tryz.cOth ht
    simp only at hd
    rw [hd] at hwk
    obtain ⟨y0, t0, g0⟩ := hf 0 _ rfl
    obtain ⟨y1, t1, g1⟩ := hf 1 _ rfl
    obtain ⟨y2, t2, g2⟩ := hf 2 _ rfl
    obtain ⟨nm, e0, r0, _⟩ := DataW.trod_string Tryz.underlying9 t0
    obtain ⟨hint, e1, _, _⟩ := DataW.trod_int Tryz.underlying3 t1
    obtain ⟨ab, nb, cb, e2, hby⟩ := open_bytesAt t2 (wt_field hwk Tryz.underlying113 2 rfl g2)
    have w0 := wt_field hwk Tryz.underlying113 0 rfl g0
    rw [r0] at w0
    have l0 := wt_str w0
    simp only [List.cons.injEq, and_true] at e0 e1
    refine ⟨b, o, nm.data.toList, hint, ab, nb, cb, rfl, ?_, ?_, ?_, l0, hby⟩
    · have := hcell 0 (by omega); rw [e0] at this; simpa [encStr] using this
    · have := hcell 1 (by omega); rw [e1] at this; exact this
    · have := hcell 2 (by omega); rw [e2] at this; exact this
end
end Go.Proofs.YtakjpgjcfecfiaaGreatDoor
