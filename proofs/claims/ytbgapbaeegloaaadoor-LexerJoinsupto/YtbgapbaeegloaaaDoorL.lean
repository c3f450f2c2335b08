import Derived.Test.YtbgapbaeegloaaaDoorH
namespace Go.Proofs.YtbgapbaeegloaaaDoor
open Go.RowKit Go.Maps

theorem Tryd.info5 : (Tryd.prog.info? 5).map (fun i => (i.zero, i.size, i.bytes)) = some (some (.int .u8 0), 1, 1) := by kernel_rfl

theorem BytesAt.cells {w : World} {v : Value} {l : Txt} (h : BytesAt w v l) (h0 : 0 < l.length) :
    ∃ b off cap, v = .slice (some ⟨b, off, none⟩) l.length cap ∧ b < w.heap.size ∧ ∀ i c, l[i]? = some c → w.cell? ⟨b, off + i, none⟩ = some (.int .u8 (num c)) := by
  obtain ⟨b, off, cap, e, hb, hc⟩ := RowAt.cells h h0
  exact ⟨b, off, cap, e, hb, fun i c hi => hc i _ (by rw [bs_get, hi]; rfl)⟩

end Go.Proofs.YtbgapbaeegloaaaDoor
