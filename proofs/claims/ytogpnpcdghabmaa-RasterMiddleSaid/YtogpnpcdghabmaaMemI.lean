/- Rows of ints: in Mem. -/
import Derived.Test.YtogpnpcdghabmaaMem
